import Derived.Test.YtpmcpomomagkhaaPackCopy
/- Take. -/
namespace Go.Proofs.Ytpmcpomomagkhaa
open Go.RowKit

def forN (d : Kd) (i : Int) (M : List Ms) : List Ms := M.filter fun m => decide (((homeN d m : Nat) : Int) = i)
def restN (d : Kd) (i : Int) (M : List Ms) : List Ms := M.filter fun m => !decide (((homeN d m : Nat) : Int) = i)
theorem forN_take {d : Kd} {i : Int} {M : List Ms} {k : Nat} {m : Ms} (h : M[k]? = some m) : forN d i (M.take (k + 1)) = forN d i (M.take k) ++ (if ((homeN d m : Nat) : Int) = i then [m] else []) := by
  rw [List.take_add_one, h]
  unfold forN
  rw [List.filter_append]
  by_cases hh : ((homeN d m : Nat) : Int) = i <;> simp [hh]
theorem restN_take {d : Kd} {i : Int} {M : List Ms} {k : Nat} {m : Ms} (h : M[k]? = some m) : restN d i (M.take (k + 1)) = restN d i (M.take k) ++ (if ((homeN d m : Nat) : Int) = i then [] else [m]) := by
  rw [List.take_add_one, h]
  unfold restN
  rw [List.filter_append]
  by_cases hh : ((homeN d m : Nat) : Int) = i <;> simp [hh]
/-- How far the messages have been taken: the node that was handed in, the result, what is left; what is taken. -/
structure TakeTo (w wx : World) (B7 : Nat) (x y z : Value) (vp vk vm vt vh : Value) (ps : List Int) (FK : List Br.Kc) (F1 F2 : List Mt) (hs : List Int) : Prop where
  boxP : NBox wx w.heap.size x y z
  box0 : NBox wx (w.heap.size + 1) (.slice none 0 0) (.slice none 0 0) (.slice none 0 0)
  box7 : NBox wx B7 vp vk vm
  far : w.heap.size + 1 < B7
  ints : Br.NewInts w.heap.size wx vp ps
  row : RowNew w.heap.size wx vk FK
  left : NewMsgs w.heap.size wx vm F1
  took : NewMsgs w.heap.size wx vt F2
  apart : ∀ b, vm.ownBlock = some b → vt.ownBlock ≠ some b
  home : Br.NewInts w.heap.size wx vh hs
  low : Below w.heap.size w wx
theorem TakeTo.here {w wx wy : World} {B7 : Nat} {x y z vp vk vm vt vh : Value} {ps : List Int} {FK : List Br.Kc} {F1 F2 : List Mt} {hs : List Int} (h : TakeTo w wx B7 x y z vp vk vm vt vh ps FK F1 F2 hs) (hb : Below wx.heap.size wx wy) : TakeTo w wy B7 x y z vp vk vm vt vh ps FK F1 F2 hs :=
  ⟨h.boxP.here hb, h.box0.here hb, h.box7.here hb, h.far, h.ints.here hb, h.row.here hb, h.left.here hb, h.took.here hb, h.apart, h.home.here hb, h.low.trans (hb.mono h.low.size)⟩
theorem own_other {w w' : World} {base e n s : Nat} {v : Value} {xs : List Value} {o : Option Nat} (h : w.ownsRow base e s v n xs) (hg : w.grownBy w' o) (hne : ∀ b, v.ownBlock = some b → o ≠ some b) : w'.ownsRow base e s v n xs :=
  own_same h fun b hb hl => by
    obtain ⟨_, _, _, _, hbl⟩ := hg
    exact hbl b hl (fun e => hne b hb e.symm)
theorem own_lt {w : World} {base e n s : Nat} {v : Value} {xs : List Value} (h : w.ownsRow base e s v n xs) {b : Nat} (hb : v.ownBlock = some b) : b < w.heap.size := (own_type h b hb).1
/-- One more is taken. -/
theorem TakeTo.took1 {w wx wy : World} {B7 : Nat} {x y z vp vk vm vt vt' vh : Value} {ps : List Int} {FK : List Br.Kc} {F1 F2 : List Mt} {hs : List Int} {e : Mt} (h : TakeTo w wx B7 x y z vp vk vm vt vh ps FK F1 F2 hs) (he : NewMsg w.heap.size wx e) (ho : wy.ownsRow w.heap.size 48 5 vt' (F2 ++ [e]).length (flatM (F2 ++ [e]))) (hg : wx.grownBy wy vt.ownBlock) (hat : ∀ b, vt'.ownBlock = some b → vt.ownBlock = some b ∨ wx.heap.size ≤ b) : TakeTo w wy B7 x y z vp vk vm vt' vh ps FK F1 (F2 ++ [e]) hs := by
  have hk : Keep 48 w.heap.size wx wy := keep_grown h.took.own hg h.low.size
  refine ⟨h.boxP.keep hk (by decide), h.box0.keep hk (by decide), h.box7.keep hk (by decide), h.far, new_ints_keep h.ints hk (by decide), h.row.keep hk (by decide) (by decide), ⟨own_other h.left.own hg h.apart, fun f hf => (h.left.ms f hf).keep hk (by decide)⟩, h.took.push he ho hk, fun b hb hb' => ?_, new_ints_keep h.home hk (by decide), h.low.trans hk.low⟩
  rcases hat b hb' with h1 | h1
  · exact h.apart b hb h1
  · have := own_lt h.left.own hb; omega
/-- One more is left. -/
theorem TakeTo.left1 {w wx wy : World} {B7 : Nat} {x y z vp vk vm vm' vt vh : Value} {ps : List Int} {FK : List Br.Kc} {F1 F2 : List Mt} {hs : List Int} {e : Mt} (h : TakeTo w wx B7 x y z vp vk vm vt vh ps FK F1 F2 hs) (he : NewMsg w.heap.size wx e) (ho : wy.ownsRow w.heap.size 48 5 vm' (F1 ++ [e]).length (flatM (F1 ++ [e]))) (hg : wx.grownBy wy vm.ownBlock) (hat : ∀ b, vm'.ownBlock = some b → vm.ownBlock = some b ∨ wx.heap.size ≤ b) :
    NBox wy B7 vp vk vm ∧ TakeTo w (wy.setCell ⟨B7, 2, none⟩ vm') B7 x y z vp vk vm' vt vh ps FK (F1 ++ [e]) F2 hs := by
  have hk : Keep 48 w.heap.size wx wy := keep_grown h.left.own hg h.low.size
  have b7 := h.box7.keep hk (by decide)
  have hset : Keep 31 w.heap.size wy (wy.setCell ⟨B7, 2, none⟩ vm') := keep_set b7.row (by have := h.far; omega) _
  have hap : ∀ b, vt.ownBlock = some b → vm.ownBlock ≠ some b := fun b hb hb' => h.apart b hb' hb
  refine ⟨b7, (h.boxP.keep hk (by decide)).other _ (by have := h.far; omega), (h.box0.keep hk (by decide)).other _ (by have := h.far; omega), b7.set2 _, h.far, new_ints_keep (new_ints_keep h.ints hk (by decide)) hset (by decide), (h.row.keep hk (by decide) (by decide)).keep hset (by decide) (by decide), (h.left.push he ho hk).keep hset (by decide) (by decide), NewMsgs.keep ⟨own_other h.took.own hg hap, fun f hf => (h.took.ms f hf).keep hk (by decide)⟩ hset (by decide) (by decide), fun b hb hb' => ?_, new_ints_keep (new_ints_keep h.home hk (by decide)) hset (by decide), (h.low.trans hk.low).trans hset.low⟩
  rcases hat b hb with h1 | h1
  · exact h.apart b h1 hb'
  · have := own_lt h.took.own hb'; omega
/-- What Take gives. -/
structure TookPost (w : World) (ps : List Int) (ks : List Key) (L R : List Ms) (r : Ending) (w' : World) : Prop where
  is : ∃ vp vk vm vt FK F1 F2, r = .returned (.tuple #[.agg #[vp, vk, vm], vt, .int .i64 0]) ∧ Br.NewInts w.heap.size w' vp ps ∧ RowNew w.heap.size w' vk FK ∧ Br.keysOf FK = ks ∧ NewMsgs w.heap.size w' vm F1 ∧ msOf F1 = L ∧ NewMsgs w.heap.size w' vt F2 ∧ msOf F2 = R ∧ Below w.heap.size w w'
theorem ret_node3 {fn : Func} {p q s : Tmp} (h : fn.results = #[.cell p 31, .tmp q, .tmp s]) {tmps : Array Value} {w : World} {b : Nat} {x y z u v : Value} (hp : tmps.getD p undef = .pointer (some ⟨b, 0, none⟩)) (hq : tmps.getD q undef = u) (hs : tmps.getD s undef = v) (hB : NBox w b x y z) :
    (results fn tmps).run Try.prog w = .ok (.tuple #[.agg #[x, y, z], u, v]) w := by
  have e1 := run_loadVar_row (P := Try.prog) w b 31 31 #[x, y, z] (0, 0) _ hB.row Try.underlying31 rfl infoNo
  have hp' : tmps[p]?.getD undef = .pointer (some ⟨b, 0, none⟩) := by simpa using hp
  have hq' : tmps[q]?.getD undef = u := by simpa using hq
  have hs' : tmps[s]?.getD undef = v := by simpa using hs
  simp [results, h, hp', hq', hs', asAddr, e1]
theorem own_at {g n c : Nat} {v : Value} {H K : Nat} (h : v.ownBlock = some g ∨ g = H) (hK : K ≤ H) : ∀ b, (Value.slice (some ⟨g, 0, none⟩) n c).ownBlock = some b → v.ownBlock = some b ∨ K ≤ b := fun b hb => by
  have e : g = b := by simpa [Value.ownBlock] using hb
  subst e
  rcases h with h | h
  · exact .inl h
  · exact .inr (by omega)
theorem msg_src (w : World) (y : Mt) : ∀ (j : Nat) (x : Value), (flatM [y])[j]? = some x → (w.alloc (.cells #[.int .u64 (y.m.st : Int), .int .i64 y.m.kd, y.v1, y.v2, y.v3] 48)).cell? ((⟨w.heap.size, 0, none⟩ : Addr).add j) = some x := fun j x hx =>
  World.news_of_block (cs := #[.int .u64 (y.m.st : Int), .int .i64 y.m.kd, y.v1, y.v2, y.v3]) (heap_alloc_last w _) j x (by simpa [flatM, Mt.cells] using hx)

theorem field_parts (x y : Value) (a b : Option Addr) (n m c e : Nat) (w : World) : Sem.run Try.prog (Instr.field 58 (.agg #[x, y, .slice a n c, .slice b m e]) 1) w = .ok (.agg #[.slice a n c, .slice b m e]) w := by kernel_rfl
theorem field_wait (a b : Option Addr) (n m c e : Nat) (w : World) : Sem.run Try.prog (Instr.field 56 (.agg #[.slice a n c, .slice b m e]) 1) w = .ok (.slice b m e) w := by kernel_rfl

set_option maxHeartbeats 6400000 in
set_option maxRecDepth 100000 in
theorem takeN_any {w : World} {a1 a2 a3 : Option Addr} {c1 c2 c3 : Nat} {ps : List Int} {K : List Br.Kc} {M : List Mt} {i : Int} (hP : Br.IntsAt w.heap.size w (.slice a1 ps.length c1) ps) (hK : Br.KeysAt w.heap.size w (.slice a2 K.length c2) K) (hM : MsgsAt w.heap.size w (.slice a3 M.length c3) M) (hr : riseK (Br.keysOf K) = true) (hKs : K.length * 24 ≤ 140737488355328) (hi0 : 0 ≤ i) (hi1 : i < (ps.length : Int)) :
    Calls Try.prog 14 #[.agg #[.slice a1 ps.length c1, .slice a2 K.length c2, .slice a3 M.length c3], .int .i64 i] w fun r w' => TookPost w ps (Br.keysOf K) (restN (Br.kd ps K) i (msOf M)) (forN (Br.kd ps K) i (msOf M)) r w' := by
  obtain ⟨iM, hiM, hzM0, hzM1, hzM2⟩ := infoM'
  have hsM := hM.short
  obtain ⟨W, hW⟩ : ∃ W, W = (w.alloc (.cells #[.slice a1 ps.length c1, .slice a2 K.length c2, .slice a3 M.length c3] 31)).alloc (.cells #[.slice none 0 0, .slice none 0 0, .slice none 0 0] 31) := ⟨_, rfl⟩
  have es : (w.alloc (.cells #[.slice a1 ps.length c1, .slice a2 K.length c2, .slice a3 M.length c3] 31)).heap.size = w.heap.size + 1 := by simp
  have HBW : Hid (Below w.heap.size w W) := by rw [hW]; exact (below_new _ _).alloc (by rw [es]; omega) _
  have HX : Hid (NBox W w.heap.size (.slice a1 ps.length c1) (.slice a2 K.length c2) (.slice a3 M.length c3)) := by rw [hW]; exact (NBox.new _ _ _ _).here (below_new _ _)
  have HX0 : Hid (NBox W (w.heap.size + 1) (.slice none 0 0) (.slice none 0 0) (.slice none 0 0)) := by rw [hW, ← es]; exact NBox.new _ _ _ _
  have HM : Hid (MsgsAt w.heap.size w (.slice a3 M.length c3) M) := hM
  have HPO : Hid (∀ W', Below w.heap.size w W' → Calls Try.prog 21 #[.agg #[.slice a1 ps.length c1, .slice a2 K.length c2, .slice a3 M.length c3]] W' fun r w' => PartsPost W' (.slice a1 ps.length c1) (.slice a2 K.length c2) (.slice a3 M.length c3) (homes (Br.kd ps K) (msOf M)) r w') := fun W' hb => partsOf_any (hK.here hb) (hM.here hb) hr
  have HAN := anewN_any (hP.here HBW.out) (hK.here HBW.out) hKs
  obtain ⟨x0, x1, x2⟩ := HX.out.cells
  have hiz1 : ¬ i < 0 := by omega
  have hiz2 : ¬ (ps.length : Int) ≤ i := by omega
  clear hP hK hM
  go_enter Try.func14, Try.ntmps14
  go_wp2_with fail
  rw [← hW]
  clear hW
  refine HAN.mono ?_
  rintro r w1 ⟨vp, vk, FK, rfl, hvp, hvk, hfk, hb1⟩
  obtain ⟨p1, q1, f1⟩ := own_form' hvp.own
  obtain ⟨p2, q2, f2⟩ := own_form' hvk.own
  subst f1 f2
  obtain ⟨W2, hW2⟩ : ∃ W2, W2 = w1.alloc (.cells #[.slice p1 ps.length q1, .slice p2 FK.length q2, .slice none 0 0] 31) := ⟨_, rfl⟩
  have HB12 : Hid (Below w1.heap.size w1 W2) := by rw [hW2]; exact below_new _ _
  have HBW2 : Hid (Below W.heap.size W W2) := hb1.trans (HB12.out.mono hb1.size)
  have HW2 : Hid (Below w.heap.size w W2) := HBW.out.trans (HBW2.out.mono HBW.out.size)
  have HX7 : Hid (NBox W2 w1.heap.size (.slice p1 ps.length q1) (.slice p2 FK.length q2) (.slice none 0 0)) := by rw [hW2]; exact NBox.new _ _ _ _
  have HFAR : Hid (w.heap.size + 1 < w1.heap.size) := Nat.lt_of_lt_of_le HX0.out.lt hb1.size
  have HI2 : Hid (Br.NewInts w.heap.size W2 (.slice p1 ps.length q1) ps) := (hvp.mono HBW.out.size).here HB12.out
  have HR2 : Hid (RowNew w.heap.size W2 (.slice p2 FK.length q2) FK) := (hvk.mono HBW.out.size).here HB12.out
  have HFK : Hid (Br.keysOf FK = Br.keysOf K) := hfk
  have HXP2 : Hid (NBox W2 w.heap.size (.slice a1 ps.length c1) (.slice a2 K.length c2) (.slice a3 M.length c3)) := HX.out.here HBW2.out
  have HX02 : Hid (NBox W2 (w.heap.size + 1) (.slice none 0 0) (.slice none 0 0) (.slice none 0 0)) := HX0.out.here HBW2.out
  obtain ⟨y0, y1, y2⟩ := HXP2.out.cells
  obtain ⟨B7, hB7⟩ : ∃ B7, B7 = w1.heap.size := ⟨_, rfl⟩
  rw [← hB7] at HX7 HFAR
  clear hvp hvk hfk hb1 HAN x0 x1 x2
  go_upto_region 4 with fail
  rw [← hW2, ← hB7]
  clear hW2 hB7
  go_wp2_with fail
  refine (HPO.out W2 HW2.out).mono ?_
  rintro r w3 ⟨u, rfl, hu, hb3⟩
  obtain ⟨ph, qh, fh⟩ := own_form' hu.own
  rw [homes_length, msOf_length] at fh
  subst fh
  have HT0 : Hid (TakeTo w w3 B7 (.slice a1 ps.length c1) (.slice a2 K.length c2) (.slice a3 M.length c3) (.slice p1 ps.length q1) (.slice p2 FK.length q2) (.slice none 0 0) (.slice none 0 0) (.slice ph M.length qh) ps FK [] [] (homes (Br.kd ps K) (msOf M))) :=
    ⟨HXP2.out.here hb3, HX02.out.here hb3, HX7.out.here hb3, HFAR.out, HI2.out.here hb3, HR2.out.here hb3, NewMsgs.nil _ _, NewMsgs.nil _ _, fun b hb => (by simp [Value.ownBlock] at hb), hu.mono HW2.out.size, HW2.out.trans (hb3.mono HW2.out.size)⟩
  have hfp := field_parts
  have hfw := field_wait
  clear hu hb3 y0 y1 y2 HXP2 HX02 HX7 HI2 HR2
  go_wp2_with fail
  go_loopw [8, 31] (fun t j wx => ∃ (k : Nat) (vm : Value) (F1 F2 : List Mt), k ≤ M.length ∧ j = .int .i64 k ∧ F1.length + F2.length = k ∧ msOf F1 = restN (Br.kd ps K) i ((msOf M).take k) ∧ msOf F2 = forN (Br.kd ps K) i ((msOf M).take k) ∧ TakeTo w wx B7 (.slice a1 ps.length c1) (.slice a2 K.length c2) (.slice a3 M.length c3) (.slice p1 ps.length q1) (.slice p2 FK.length q2) vm t (.slice ph M.length qh) ps FK F1 F2 (homes (Br.kd ps K) (msOf M))) (fun _ j _ => M.length - (intOf j).toNat)
  case atStart => exact ⟨0, _, [], [], by omega, rfl, rfl, rfl, rfl, HT0.out⟩
  case round =>
    obtain ⟨k, vm, F1, F2, hk, rfl, hfl, hm1, hm2, hto⟩ := hrel
    obtain ⟨pm, qm, fm⟩ := own_form' hto.left.own
    obtain ⟨pt, qt, ft⟩ := own_form' hto.took.own
    subst fm ft
    have HTO : Hid (TakeTo w wr B7 (.slice a1 ps.length c1) (.slice a2 K.length c2) (.slice a3 M.length c3) (.slice p1 ps.length q1) (.slice p2 FK.length q2) (.slice pm F1.length qm) (.slice pt F2.length qt) (.slice ph M.length qh) ps FK F1 F2 (homes (Br.kd ps K) (msOf M))) := hto
    have HM1 : Hid (msOf F1 = restN (Br.kd ps K) i ((msOf M).take k)) := hm1
    have HM2 : Hid (msOf F2 = forN (Br.kd ps K) i ((msOf M).take k)) := hm2
    have hwr := hto.low.size
    have hl1 : F1.length ≤ k := by omega
    have hl2 : F2.length ≤ k := by omega
    have HFL : Hid (F1.length + F2.length = k) := hfl
    clear hto hm1 hm2 hfl HT0
    by_cases hlt : k < M.length
    · have hz : (k : Int) < (M.length : Int) := by omega
      obtain ⟨e, he⟩ : ∃ e, M[k]? = some e := ⟨_, List.getElem?_eq_getElem hlt⟩
      have hMw := HM.out.here HTO.out.low
      obtain ⟨g, off, c', e1, k0, k1, k2, k3, k4⟩ := hMw.cells k e he
      cases e1
      have hok := hMw.ok e (List.mem_of_getElem? he)
      have HGE : Hid ((msOf M)[k]? = some e.m) := msOf_get he
      have hgt := homes_get (d := Br.kd ps K) (msOf_get he)
      obtain ⟨gh, oh, ch, eh, hch⟩ := (homes_at HTO.out.home (by show (Br.keysOf K).length ≤ _; rw [Br.keysOf_length]; omega) (by rw [msOf_length]; exact hsM)).cell k _ hgt
      rw [homes_length, msOf_length] at eh
      cases eh
      have HF := forN_take (d := Br.kd ps K) (i := i) (msOf_get he)
      have HR := restN_take (d := Br.kd ps K) (i := i) (msOf_get he)
      obtain ⟨H, hH⟩ : ∃ H : Nat, H = homeN (Br.kd ps K) e.m := ⟨_, rfl⟩
      rw [← hH] at hch HF HR
      obtain ⟨b1, d1, f1⟩ := hok.lo.form
      obtain ⟨b2, d2, f2⟩ := hok.hi.form
      obtain ⟨b3, d3, f3⟩ := hok.va.form
      obtain ⟨v1, v2, v3, m⟩ := e
      simp only at f1 f2 f3 k0 k1 k2 k3 k4 HF HR HGE
      subst f1 f2 f3
      have HOK : Hid (Mt.Ok wr.heap.size wr ⟨.slice b1 m.lo.length d1, .slice b2 m.hi.length d2, .slice b3 m.va.length d3, m⟩) := hok
      have HCO : Hid (∀ W', Below wr.heap.size wr W' → Calls Try.prog 28 #[.agg #[.int .u64 (m.st : Int), .int .i64 m.kd, .slice b1 m.lo.length d1, .slice b2 m.hi.length d2, .slice b3 m.va.length d3]] W' fun r w' => ∃ u, r = .returned u ∧ CopyPost W' m (.returned u) w') := fun W' hb => (copiedN_any (HOK.out.here hb)).mono fun r w' hp => by
        obtain ⟨y, e, h1⟩ := hp.is
        exact ⟨_, e, ⟨y, rfl, h1⟩⟩
      obtain ⟨x0, x1, x2⟩ := HTO.out.boxP.cells
      obtain ⟨s0, s1, s2⟩ := HTO.out.box7.cells
      clear hMw hok he hgt hH
      by_cases hHi : (H : Int) = i
      · rw [if_pos hHi] at HF HR
        subst hHi
        have HF' : Hid (forN (Br.kd ps K) (H : Int) ((msOf M).take (k + 1)) = msOf F2 ++ [m]) := by rw [Hid, HM2.out]; exact HF
        have HR' : Hid (restN (Br.kd ps K) (H : Int) ((msOf M).take (k + 1)) = msOf F1) := by rw [Hid, HM1.out, HR, List.append_nil]
        clear HF HR
        go_wp2_with fail
        refine (HCO.out wr (Below.refl _ _)).mono ?_
        rintro r w5 ⟨u5, rfl, hp5⟩
        obtain ⟨⟨t1, t2, t3, m'⟩, e5, hm5, hn5, hb5⟩ := hp5.is
        cases e5
        simp only at hm5
        subst hm5
        obtain ⟨g1, j1, i1⟩ := hn5.lo.in.form
        obtain ⟨g2, j2, i2⟩ := hn5.hi.in.form
        obtain ⟨g3, j3, i3⟩ := hn5.va.in.form
        simp only at i1 i2 i3
        subst i1 i2 i3
        simp only [Mt.val]
        have HB5 : Hid (Below wr.heap.size wr w5) := hb5
        have HN5 : Hid (NewMsg w.heap.size w5 ⟨.slice g1 m'.lo.length j1, .slice g2 m'.hi.length j2, .slice g3 m'.va.length j3, m'⟩) := hn5.mono hwr
        have HBR6 : Hid (∀ o, Below wr.heap.size wr (w5.alloc o)) := fun o => HB5.out.trans ((below_new _ _).mono HB5.out.size)
        have HT6 : Hid (∀ o, TakeTo w (w5.alloc o) B7 _ _ _ _ _ _ _ _ ps FK F1 F2 _) := fun o => HTO.out.here (HBR6.out o)
        have HN6 : Hid (∀ o, NewMsg w.heap.size (w5.alloc o) ⟨.slice g1 m'.lo.length j1, .slice g2 m'.hi.length j2, .slice g3 m'.va.length j3, m'⟩) := fun o => HN5.out.here (below_new _ _)
        have HSRC : Hid (∀ (j : Nat) (x : Value), (flatM [(⟨.slice g1 m'.lo.length j1, .slice g2 m'.hi.length j2, .slice g3 m'.va.length j3, m'⟩ : Mt)])[j]? = some x → (w5.alloc (.cells #[.int .u64 (m'.st : Int), .int .i64 m'.kd, .slice g1 m'.lo.length j1, .slice g2 m'.hi.length j2, .slice g3 m'.va.length j3] 48)).cell? ((⟨w5.heap.size, 0, none⟩ : Addr).add j) = some x) := msg_src w5 ⟨.slice g1 m'.lo.length j1, .slice g2 m'.hi.length j2, .slice g3 m'.va.length j3, m'⟩
        have HONE : Hid (∀ u ∈ flatM [(⟨.slice g1 m'.lo.length j1, .slice g2 m'.hi.length j2, .slice g3 m'.va.length j3, m'⟩ : Mt)], u.oneCell' = true) := fun u hu => by
          simp only [flatM, Mt.cells, List.flatMap_cons, List.flatMap_nil, List.append_nil, List.mem_cons, List.not_mem_nil, or_false] at hu
          rcases hu with rfl | rfl | rfl | rfl | rfl <;> rfl
        have HSZ6 : Hid (∀ o, w.heap.size ≤ (w5.alloc o).heap.size) := fun o => Nat.le_trans hwr (HBR6.out o).size
        clear hn5 hb5 hp5 k0 k1 k2 k3 k4 hch x0 x1 x2 s0 s1 s2
        go_wp2_with (at_builtin; go_loud (
             refine wpList_append_lies _ rfl _ _ 29 rfl w.heap.size 48 iM _ 5 88 Try.underlying29 hiM hzM0 hzM1 hzM2 rfl (by decide) (.slice pt F2.length qt) F2.length (flatM F2) rfl (by exact (HT6.out _).took.own) ⟨w5.heap.size, 0, none⟩ 1 1 (flatM [⟨.slice g1 m'.lo.length j1, .slice g2 m'.hi.length j2, .slice g3 m'.va.length j3, m'⟩]) rfl (flatM_length _) (by exact HSRC.out) HONE.out (by decide) (by unfold maxLen; omega) (by omega) (by exact HSZ6.out _) _ rfl ?_
             intro g7 c7 w7 ho7 hg7 hat7 _
             have HT7 : Hid _ := (HT6.out _).took1 (HN6.out _) (by rw [List.length_append, flatM_append]; exact ho7) hg7 (own_at hat7 (Nat.le_refl _))
             clear ho7 hg7 hat7))
        exact ⟨⟨k + 1, _, F1, F2 ++ [⟨.slice g1 m'.lo.length j1, .slice g2 m'.hi.length j2, .slice g3 m'.va.length j3, m'⟩], by omega, by go_num, by rw [List.length_append, ← Nat.add_assoc, HFL.out]; rfl, by rw [HR'.out], by rw [HF'.out]; simp [msOf], HT7.out⟩, by simp [intOf]; omega⟩
      · have hHz : ((H : Int) == i) = false := by rw [beq_eq_false_iff_ne]; exact hHi
        rw [if_neg hHi] at HF HR
        have HF' : Hid (forN (Br.kd ps K) i ((msOf M).take (k + 1)) = msOf F2) := by rw [Hid, HM2.out, HF, List.append_nil]
        have HR' : Hid (restN (Br.kd ps K) i ((msOf M).take (k + 1)) = msOf F1 ++ [m]) := by rw [Hid, HM1.out]; exact HR
        have HD : Hid (Below wr.heap.size wr wr.drew) := (Below.refl _ _).drew
        clear hHi HF HR
        go_wp2_with fail
        go_region_law
          (first
            | (refine step_callN (by rfl) 28 (Go.Proofs.enters_of Try.func28 (by kernel_rfl) rfl) _ _ (by rfl) _ _ (by rfl) (by exact HCO.out _ HD.out) ?_
               intro u5 w5 hp5
               obtain ⟨⟨t1, t2, t3, m'⟩, e5, hm5, hn5, hb5⟩ := hp5.is
               cases e5
               simp only at hm5
               subst hm5
               obtain ⟨g1, j1, i1⟩ := hn5.lo.in.form
               obtain ⟨g2, j2, i2⟩ := hn5.hi.in.form
               obtain ⟨g3, j3, i3⟩ := hn5.va.in.form
               simp only at i1 i2 i3
               subst i1 i2 i3
               simp only [Mt.val]
               have HB5 : Hid (Below wr.heap.size wr w5) := HD.out.trans (hb5.mono HD.out.size)
               have HN5 : Hid (NewMsg w.heap.size w5 ⟨.slice g1 m'.lo.length j1, .slice g2 m'.hi.length j2, .slice g3 m'.va.length j3, m'⟩) := hn5.mono (Nat.le_trans hwr HD.out.size)
               have HBR6 : Hid (∀ o, Below wr.heap.size wr (w5.alloc o)) := fun o => HB5.out.trans ((below_new _ _).mono HB5.out.size)
               have HT6 : Hid (∀ o, TakeTo w (w5.alloc o) B7 _ _ _ _ _ _ _ _ ps FK F1 F2 _) := fun o => HTO.out.here (HBR6.out o)
               have HN6 : Hid (∀ o, NewMsg w.heap.size (w5.alloc o) ⟨.slice g1 m'.lo.length j1, .slice g2 m'.hi.length j2, .slice g3 m'.va.length j3, m'⟩) := fun o => HN5.out.here (below_new _ _)
               have HSRC : Hid (∀ (j : Nat) (x : Value), (flatM [(⟨.slice g1 m'.lo.length j1, .slice g2 m'.hi.length j2, .slice g3 m'.va.length j3, m'⟩ : Mt)])[j]? = some x → (w5.alloc (.cells #[.int .u64 (m'.st : Int), .int .i64 m'.kd, .slice g1 m'.lo.length j1, .slice g2 m'.hi.length j2, .slice g3 m'.va.length j3] 48)).cell? ((⟨w5.heap.size, 0, none⟩ : Addr).add j) = some x) := msg_src w5 ⟨.slice g1 m'.lo.length j1, .slice g2 m'.hi.length j2, .slice g3 m'.va.length j3, m'⟩
               have HONE : Hid (∀ u ∈ flatM [(⟨.slice g1 m'.lo.length j1, .slice g2 m'.hi.length j2, .slice g3 m'.va.length j3, m'⟩ : Mt)], u.oneCell' = true) := fun u hu => (by
                 simp only [flatM, Mt.cells, List.flatMap_cons, List.flatMap_nil, List.append_nil, List.mem_cons, List.not_mem_nil, or_false] at hu
                 rcases hu with rfl | rfl | rfl | rfl | rfl <;> rfl)
               have HSZ6 : Hid (∀ o, w.heap.size ≤ (w5.alloc o).heap.size) := fun o => Nat.le_trans hwr (HBR6.out o).size
               obtain ⟨y0, y1, y2⟩ := (HTO.out.here HB5.out).box7.cells
               have ya : ∀ o, (w5.alloc o).cell? ⟨B7, 2, none⟩ = some (.slice pm F1.length qm) := fun o => (HT6.out o).box7.cells.2.2
               clear hn5 hb5 hp5)
            | (refine step_append_lies _ (by rfl) _ _ 29 (by rfl) w.heap.size 48 iM _ 5 88 Try.underlying29 hiM hzM0 hzM1 hzM2 rfl (by decide) (.slice pm F1.length qm) F1.length (flatM F1) (by rfl) (by exact (HT6.out _).left.own) ⟨w5.heap.size, 0, none⟩ 1 1 (flatM [⟨.slice g1 m'.lo.length j1, .slice g2 m'.hi.length j2, .slice g3 m'.va.length j3, m'⟩]) (by rfl) (flatM_length _) (by exact HSRC.out) HONE.out (by decide) (by unfold maxLen; omega) (by omega) (by exact HSZ6.out _) _ rfl ?_
               intro g7 c7 w7 ho7 hg7 hat7 _
               have hst := (HT6.out _).left1 (HN6.out _) (by rw [List.length_append, flatM_append]; exact ho7) hg7 (own_at hat7 (Nat.le_refl _))
               have HT7 : Hid _ := hst.2
               obtain ⟨z0, z1, z2⟩ := hst.1.cells
               have o2 := hst.1.open 2
               clear ho7 hg7 hat7 hst))
        all_goals
          go_wp2
          exact ⟨⟨k + 1, _, F1 ++ [⟨.slice g1 m'.lo.length j1, .slice g2 m'.hi.length j2, .slice g3 m'.va.length j3, m'⟩], F2, by omega, by go_num, by rw [List.length_append]; have := HFL.out; simp; omega, by rw [HR'.out]; simp [msOf], by rw [HF'.out], HT7.out⟩, by simp [intOf]; omega⟩
    · have hz : ¬ (k : Int) < (M.length : Int) := by omega
      have HE1 : Hid (msOf F1 = restN (Br.kd ps K) i (msOf M)) := by
        have := HM1.out
        rw [List.take_of_length_le (by rw [msOf_length]; omega)] at this
        exact this
      have HE2 : Hid (msOf F2 = forN (Br.kd ps K) i (msOf M)) := by
        have := HM2.out
        rw [List.take_of_length_le (by rw [msOf_length]; omega)] at this
        exact this
      obtain ⟨s0, s1, s2⟩ := HTO.out.box7.cells
      obtain ⟨t0, t1, t2⟩ := HTO.out.box0.cells
      have o0 := HTO.out.box0.open 0
      have o1 := HTO.out.box0.open 1
      have o2 := HTO.out.box0.open 2
      have hkp := putN_keep (B := w.heap.size) (.slice p1 ps.length q1) (.slice p2 FK.length q2) (.slice pm F1.length qm) HTO.out.box0 (by omega)
      have HEND : Hid (NBox (putN wr (w.heap.size + 1) (.slice p1 ps.length q1) (.slice p2 FK.length q2) (.slice pm F1.length qm)) (w.heap.size + 1) (.slice p1 ps.length q1) (.slice p2 FK.length q2) (.slice pm F1.length qm) ∧ TookPost w ps (Br.keysOf K) (restN (Br.kd ps K) i (msOf M)) (forN (Br.kd ps K) i (msOf M)) (.returned (.tuple #[.agg #[.slice p1 ps.length q1, .slice p2 FK.length q2, .slice pm F1.length qm], .slice pt F2.length qt, .int .i64 0])) (putN wr (w.heap.size + 1) (.slice p1 ps.length q1) (.slice p2 FK.length q2) (.slice pm F1.length qm))) :=
        ⟨putN_box _ _ _ HTO.out.box0, ⟨_, _, _, _, FK, F1, F2, rfl, new_ints_keep HTO.out.ints hkp (by decide), HTO.out.row.keep hkp (by decide) (by decide), HFK.out, HTO.out.left.keep hkp (by decide) (by decide), HE1.out, HTO.out.took.keep hkp (by decide) (by decide), HE2.out, HTO.out.low.trans hkp.low⟩⟩
      clear hkp
      go_wp2
      exact bodyPost_ret (v := .tuple #[.agg #[.slice p1 ps.length q1, .slice p2 FK.length q2, .slice pm F1.length qm], .slice pt F2.length qt, .int .i64 0]) (ret_node3 rfl rfl rfl rfl HEND.out.1) rfl HEND.out.2
end Go.Proofs.Ytpmcpomomagkhaa
