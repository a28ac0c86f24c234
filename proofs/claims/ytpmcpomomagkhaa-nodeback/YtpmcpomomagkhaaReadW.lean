import Derived.Test.YtpmcpomomagkhaaPackRead
import Derived.Deep.RegionLaw
/- read. -/
namespace Go.Proofs.Ytpmcpomomagkhaa
open Go.RowKit

/-- Bytes put behind bytes of new memory, as a step of a region that draws its order. -/
theorem step_append_key {w : World} {ops : Array Oper} {o : Oper} {a : Act} {K : Act → World → Prop} {Q : Exit → Act → World → Prop} {E : Prop} (hgd : o.guard = none) (s x : Operand)
    (ho : o.op = .call { callee := .builtin .append, args := #[s, x], argTypes := #[32, 32] }) (base : Nat)
    (v u : Value) (ks bs : Key) (hs : a.eval s = v) (hv : NewKey base w v ks) (hx : a.eval x = u) (hu : KeyAt w u bs)
    (hlen : ks.length + bs.length ≤ 140737488355328) (hbase : base ≤ w.heap.size)
    (h : ∀ v' w', NewKey base w' v' (ks ++ bs) → Keeps base w w' → w.grownBy w' v.ownBlock → K (a.put o.dst v') w') :
    if Region.wanted o (yielded ops a.tmps) = true then Oper.wp Try.prog o a w K Q else E := by
  have hw : Region.wanted o (yielded ops a.tmps) = true := by simp [Region.wanted, hgd]
  rw [if_pos hw]
  obtain ⟨i0, hi, hz0, hz1, hz2⟩ := info5'
  obtain ⟨⟨ao, c, rfl, hb, hc, hn⟩, hl⟩ := hu
  cases ao with
  | none =>
    have h0 : bs = [] := by
      cases bs with
      | nil => rfl
      | cons b r => obtain ⟨_, _, e, _⟩ := hb 0 b rfl; cases e
    subst h0
    obtain rfl := hn rfl
    have hrun := run_append_owned_none (P := Try.prog) (w := w) base 32 o.type 5 i0 1 Try.underlying32 hi _ _ _ hv.1
    have hx' : a.eval x = .slice none 0 0 := hx
    have := h v w (by rw [List.append_nil]; exact hv) (Keeps.refl _ _) ⟨rfl, rfl, rfl, Nat.le_refl _, fun _ _ _ => rfl⟩
    unfold Oper.wp
    simp [execOp, ho, resolve, invoke, builtin, hs, hx', hrun, Result.andThen]
    exact this
  | some ad =>
    refine wp_append_own w s x 32 ho base 5 i0 (.int .u8 0) 1 1 Try.underlying32 hi hz0 hz1 hz2 rfl (by decide) _ _ _ hs hv.1 ad bs.length c (bs.map encB) hx (by simp) ?_ ?_ (by unfold maxLen; omega) (by omega) hbase ?_
    · intro j u hj
      rw [List.getElem?_map] at hj
      cases e : bs[j]? with
      | none => rw [e] at hj; cases hj
      | some b =>
        rw [e] at hj
        cases hj
        obtain ⟨g', off, e1, _, hc⟩ := hb j b e
        cases e1
        rw [add_at]
        exact hc
    · intro u hu
      obtain ⟨b, _, rfl⟩ := List.mem_map.1 hu
      rfl
    · intro v' w' hown hgr _
      refine h v' w' ⟨?_, by rw [List.length_append]; exact hlen⟩ (Keeps.grown hv hgr hbase) hgr
      rw [List.length_append, List.map_append]
      exact hown
/-- A call of a function of one argument, as a step of a region that draws its order. -/
theorem step_callN {w : World} {ops : Array Oper} {o : Oper} {a : Act} {K : Act → World → Prop} {Q : Exit → Act → World → Prop} {E : Prop} (hgd : o.guard = none) (N : Nat) (hE : Go.Proofs.Enters Try.prog N) (x : Operand) (t : TypeId)
    (ho : o.op = .call { callee := .value (.func N), args := #[x], argTypes := #[t] }) (v : Value) (R : Value → World → Prop) (hx : a.eval x = v) (hc : Calls Try.prog N #[v] w fun r w' => ∃ u, r = .returned u ∧ R u w') (h : ∀ u w', R u w' → K (a.put o.dst u) w') :
    if Region.wanted o (yielded ops a.tmps) = true then Oper.wp Try.prog o a w K Q else E := by
  have hw : Region.wanted o (yielded ops a.tmps) = true := by simp [Region.wanted, hgd]
  rw [if_pos hw]
  unfold Oper.wp
  simp [execOp, ho, resolve, invoke, Deferred.ofValue, hx, Br.eval_func, hE #[v] w]
  show Calls Try.prog N _ w _
  refine hc.mono ?_
  rintro r w' ⟨u, rfl, hr⟩
  exact h u w' hr
theorem takeS_short (s : Key × Bool) (n : Nat) : (takeS s n).1.length ≤ n := by
  unfold takeS
  split
  · exact Nat.zero_le _
  · exact List.length_take_le _ _
theorem infoNo : (Try.prog.info? 31).map (·.size) = some 3 := by kernel_rfl
theorem ret_node {fn : Func} {p q : Tmp} (h : fn.results = #[.cell p 31, .tmp q]) {tmps : Array Value} {w : World} {b : Nat} {x y z u : Value} (hp : tmps.getD p undef = .pointer (some ⟨b, 0, none⟩)) (hq : tmps.getD q undef = u) (hB : NBox w b x y z) :
    (results fn tmps).run Try.prog w = .ok (.tuple #[.agg #[x, y, z], u]) w := by
  have e1 := run_loadVar_row (P := Try.prog) w b 31 31 #[x, y, z] (0, 0) _ hB.row Try.underlying31 rfl infoNo
  have hp' : tmps[p]?.getD undef = .pointer (some ⟨b, 0, none⟩) := by simpa using hp
  have hq' : tmps[q]?.getD undef = u := by simpa using hq
  simp [results, h, hp', hq', asAddr, e1]
def putN (w : World) (b : Nat) (x y z : Value) : World := ((w.setCell ⟨b, 0, none⟩ x).setCell ⟨b, 1, none⟩ y).setCell ⟨b, 2, none⟩ z
theorem putN_box {w : World} {b : Nat} {x y z : Value} (x' y' z' : Value) (h : NBox w b x y z) : NBox (putN w b x' y' z') b x' y' z' := ⟨heap_set_same z' (heap_set_same y' (heap_set_same x' h.row))⟩
theorem putN_keep {B b : Nat} {w : World} {x y z : Value} (x' y' z' : Value) (h : NBox w b x y z) (hB : B ≤ b) : Keep 31 B w (putN w b x' y' z') :=
  (keep_set h.row hB _).trans ((keep_set (heap_set_same _ h.row) hB _).trans (keep_set (heap_set_same _ (heap_set_same _ h.row)) hB _))
theorem NBox.open {w : World} {b : Nat} {x y z : Value} (h : NBox w b x y z) (i : Nat) : w.frozen? ⟨b, i, none⟩ = false := row_frozen h.row i
theorem NBox.set2 {w : World} {b : Nat} {x y z : Value} (h : NBox w b x y z) (z' : Value) : NBox (w.setCell ⟨b, 2, none⟩ z') b x y z' := ⟨heap_set_same z' h.row⟩
theorem NBox.other {w : World} {b c i : Nat} {x y z : Value} (h : NBox w b x y z) (v : Value) (hc : b ≠ c) : NBox (w.setCell ⟨c, i, none⟩ v) b x y z := ⟨by rw [heap_set_other v hc]; exact h.row⟩
/-- A node of new memory. -/
structure NewNode (base : Nat) (w : World) (v : Value) (d : Kd) (F : List Mt) : Prop where
  is : ∃ vp vk vm, v = .agg #[vp, vk, vm] ∧ Br.NewKids base w (.agg #[vp, vk]) d ∧ NewMsgs base w vm F
theorem new_kids_keep {base T B : Nat} {w w' : World} {v : Value} {d : Kd} (h : Br.NewKids base w v d) (hk : Keep T B w w') (h1 : 5 ≠ T) (h2 : 32 ≠ T) (h3 : 3 ≠ T) : Br.NewKids base w' v d := h.keep (toBrKeep hk) h1 h2 h3
theorem NewNode.keep {base T B : Nat} {w w' : World} {v : Value} {d : Kd} {F : List Mt} (h : NewNode base w v d F) (hk : Keep T B w w') (h1 : 5 ≠ T) (h2 : 32 ≠ T) (h3 : 3 ≠ T) (h4 : 48 ≠ T) : NewNode base w' v d F := by
  obtain ⟨vp, vk, vm, e, g1, g2⟩ := h.is
  exact ⟨vp, vk, vm, e, new_kids_keep g1 hk h1 h2 h3, g2.keep hk h1 h4⟩
theorem NewNode.here {base : Nat} {w w' : World} {v : Value} {d : Kd} {F : List Mt} (h : NewNode base w v d F) (hb : Below w.heap.size w w') : NewNode base w' v d F := by
  obtain ⟨vp, vk, vm, e, g1, g2⟩ := h.is
  exact ⟨vp, vk, vm, e, g1.here hb, g2.here hb⟩
/-- What was read. -/
structure IsRead (z : Int) (b : Key) (d : Kd) (F : List Mt) : Prop where
  kids : checkK z d = 0
  is : encN ⟨d, msOf F⟩ = b
  one : ∀ n, checkN z n = 0 → encN n = b → n = ⟨d, msOf F⟩
  few : 13 * F.length ≤ b.length
  size : sizesM (msOf F) ≤ b.length
structure ReadPost (w : World) (z : Int) (b : Key) (r : Ending) (w' : World) : Prop where
  is : ∃ (a1 : Option Addr) (n1 c1 : Nat) (a2 : Option Addr) (n2 c2 : Nat) (a3 : Option Addr) (n3 c3 : Nat) (ok : Bool), r = .returned (.tuple #[.agg #[.slice a1 n1 c1, .slice a2 n2 c2, .slice a3 n3 c3], .bool ok]) ∧ Below w.heap.size w w' ∧ (ok = false → NoNode z b) ∧ (ok = true → ∃ d F, NewNode w.heap.size w' (.agg #[.slice a1 n1 c1, .slice a2 n2 c2, .slice a3 n3 c3]) d F ∧ IsRead z b d F)
/-- How far the messages have been read. -/
structure MsgsTo (w wx : World) (z : Int) (b : Key) (N : Nat) (d : Kd) (B9 : Nat) (vp vk vm : Value) (F : List Mt) (rest : Key) (sh : Bool) : Prop where
  box0 : NBox wx w.heap.size (.slice none 0 0) (.slice none 0 0) (.slice none 0 0)
  box9 : NBox wx B9 vp vk vm
  far : w.heap.size < B9
  kids : Br.NewKids w.heap.size wx (.agg #[vp, vk]) d
  msgs : NewMsgs w.heap.size wx vm F
  rd : NRd w.heap.size wx (w.heap.size + 1) (rest, sh)
  low : Below w.heap.size w wx
  inv : (sh = false ∧ ReadN z b N d (msOf F) rest) ∨ (sh = true ∧ N = 0 ∧ NoNode z b)

theorem keep_via {T : TypeId} {B : Nat} {wr w8 w9 : World} (h1 : Keep T B wr w8) (h2 : Below wr.heap.size w8 w9) (hB : B ≤ wr.heap.size) : Keep T B wr w9 :=
  ⟨h1.low.trans (h2.mono hB), fun k cur t z ht hk => by rw [h2.block k (Array.getElem?_eq_some_iff.1 hk).1]; exact h1.typ k cur t z ht hk⟩
theorem NRd.via {B N G : Nat} {w8 w9 : World} {s : Key × Bool} (h : NRd B w8 G s) (hb : Below N w8 w9) (hG : G < N) (hB : B ≤ N) : NRd B w9 G s := by
  obtain ⟨v, h1, h2⟩ := h.is
  exact ⟨v, ⟨by rw [hb.block G hG]; exact h1.row⟩, h2.below (hb.mono hB)⟩
/-- What reading one message by itself leaves. -/
structure OneRead (w wr : World) (z : Int) (t : Key) (s : Key × Bool) (u : Value) (wx : World) : Prop where
  is : ∃ w9, Keep 81 w.heap.size wr w9 ∧ NRd w.heap.size w9 (w.heap.size + 1) s ∧ wr.heap.size ≤ w9.heap.size ∧ DecodePost w9 z t (.returned u) wx

theorem MsgsTo.over {w wr w9 wc w' : World} {z : Int} {b : Key} {N : Nat} {d : Kd} {B9 : Nat} {vp vk vm v' vx : Value} {F Fx : List Mt} {rest r : Key} {sh : Bool} (h : MsgsTo w wr z b N d B9 vp vk vm F rest sh) (hk : Keep 81 w.heap.size wr w9) (hr : NRd w.heap.size w9 (w.heap.size + 1) (r, false)) (hb : Below w9.heap.size w9 wc) (hm : Keep 48 w.heap.size wc w') (hown : w'.ownsRow w.heap.size 48 5 v' (F ++ Fx).length (flatM (F ++ Fx))) (hnx : NewMsgs w.heap.size wc vx Fx) (hrn : ReadN z b N d (msOf (F ++ Fx)) r) :
    NBox w' B9 vp vk vm ∧ MsgsTo w (w'.setCell ⟨B9, 2, none⟩ v') z b N d B9 vp vk v' (F ++ Fx) r false := by
  have hl := h.low.size
  have h9 : w.heap.size ≤ w9.heap.size := (h.low.trans hk.low).size
  have b0 := ((h.box0.keep hk (by decide)).here hb).keep hm (by decide)
  have b9 := ((h.box9.keep hk (by decide)).here hb).keep hm (by decide)
  have hset : Keep 31 w.heap.size w' (w'.setCell ⟨B9, 2, none⟩ v') := keep_set b9.row (Nat.le_of_lt h.far) _
  refine ⟨b9, b0.other _ (by have := h.far; omega), b9.set2 _, h.far, ?_, ⟨own_keep hown hset (by decide), fun e he => ?_⟩, ?_, ?_, .inl ⟨rfl, hrn⟩⟩
  · exact new_kids_keep (new_kids_keep ((new_kids_keep h.kids hk (by decide) (by decide) (by decide)).here hb) hm (by decide) (by decide) (by decide)) hset (by decide) (by decide) (by decide)
  · rcases List.mem_append.1 he with h' | h'
    · exact ((((h.msgs.ms e h').keep hk (by decide)).here hb).keep hm (by decide)).keep hset (by decide)
    · exact ((hnx.ms e h').keep hm (by decide)).keep hset (by decide)
  · exact ((hr.here h9 hb).keep hm (by decide)).keep hset (by decide)
  · exact (((h.low.trans hk.low).trans (hb.mono h9)).trans hm.low).trans hset.low
theorem NRd.cells {B G : Nat} {w : World} {r : Key} {sh : Bool} (h : NRd B w G (r, sh)) : ∃ a c, w.cell? ⟨G, 0, none⟩ = some (.slice a r.length c) ∧ w.cell? ⟨G, 1, none⟩ = some (.bool sh) := by
  obtain ⟨v, h1, h2⟩ := h.is
  obtain ⟨a, c, e⟩ := h2.form
  simp only at e h1
  subst e
  exact ⟨a, c, h1.cell.1, h1.cell.2⟩

set_option maxHeartbeats 6400000 in
set_option maxRecDepth 100000 in
theorem read_any {w : World} {v : Value} {z : Int} {b : Key} (hv : KeyIn w.heap.size w v b) (hz : Sized z) (hb : b.length ≤ 4096) :
    Calls Try.prog 24 #[.int .i64 z, v] w fun r w' => ReadPost w z b r w' := by
  obtain ⟨a, c, rfl⟩ := hv.form
  obtain ⟨W, hW⟩ : ∃ W, W = (w.alloc (.cells #[.slice none 0 0, .slice none 0 0, .slice none 0 0] 31)).alloc (.cells #[.slice a b.length c, .bool false] 81) := ⟨_, rfl⟩
  have es : (w.alloc (.cells #[.slice none 0 0, .slice none 0 0, .slice none 0 0] 31)).heap.size = w.heap.size + 1 := by simp
  have HBW : Hid (Below w.heap.size w W) := by rw [hW]; exact (below_new _ _).alloc (by rw [es]; omega) _
  have HX0 : Hid (NBox W w.heap.size (.slice none 0 0) (.slice none 0 0) (.slice none 0 0)) := by rw [hW]; exact (NBox.new _ _ _ _).here (below_new _ _)
  have HRD : Hid (NRd w.heap.size W (w.heap.size + 1) (b, false)) := by
    refine ⟨_, ⟨?_⟩, hv.below HBW.out⟩
    rw [hW, ← es]; exact heap_alloc_last _ _
  have HKL := kidsLong_any (w := W) ((hv.below HBW.out).at HBW.out.size)
  have hkl := kidsLong_le b
  have HTK : Hid (∀ W' s n, NRd w.heap.size W' (w.heap.size + 1) s → n ≤ 1000000000000 → Calls Try.prog 44 #[.pointer (some ⟨w.heap.size + 1, 0, none⟩), .int .i64 (n : Nat)] W' fun e w' => NTakePost w.heap.size W' (w.heap.size + 1) s n e w') := fun W' s n h hn => ntake_any h (by omega) hn
  have HKF : Hid (decK z (takeS (b, false) (kidsLong b)).1 = none → NoNode z b) := kids_fail
  have HKO : Hid (∀ d, decK z (takeS (b, false) (kidsLong b)).1 = some d → checkK z d = 0 ∧ takeS (b, false) (kidsLong b) = (encK d, (b.drop (encK d).length, false)) ∧ b = encK d ++ b.drop (encK d).length) := fun d => kids_ok
  obtain ⟨KL, hKL⟩ : ∃ KL, KL = kidsLong b := ⟨_, rfl⟩
  rw [← hKL] at HKL hkl HKF HKO
  obtain ⟨S, hS⟩ : ∃ S, S = takeS (b, false) KL := ⟨_, rfl⟩
  rw [← hS] at HKF HKO
  have HT1 := HTK.out W (b, false) KL HRD.out (by omega)
  have HS : Hid (S = takeS (b, false) KL) := hS
  clear hv hKL hS
  go_enter Try.func24, Try.ntmps24
  go_wp2_with fail
  rw [← hW]
  clear hW
  refine HKL.mono ?_
  rintro r w0 ⟨rfl, hw0⟩
  obtain rfl := hw0.symm
  clear HKL
  go_wp2_with fail
  refine HT1.mono ?_
  rintro r w1 ⟨u1, rfl, hu1, hrd1, hk1⟩
  rw [← HS.out] at hu1 hrd1
  have HB1 : Hid (Below w.heap.size w w1) := HBW.out.trans hk1.low
  have HX1 : Hid (NBox w1 w.heap.size (.slice none 0 0) (.slice none 0 0) (.slice none 0 0)) := HX0.out.keep hk1 (by decide)
  have HR1 : Hid (NRd w.heap.size w1 (w.heap.size + 1) S.2) := hrd1
  have HDE := Br.decode_any (z := z) (toBr (hu1.at HB1.out.size))
  clear hu1 hrd1 hk1 HT1
  go_wp2_with fail
  refine HDE.mono ?_
  rintro r w2 ⟨v2, rfl, hn2, hb2⟩
  have HB2 : Hid (Below w.heap.size w w2) := HB1.out.trans (hb2.mono HB1.out.size)
  have HX2 : Hid (NBox w2 w.heap.size (.slice none 0 0) (.slice none 0 0) (.slice none 0 0)) := HX1.out.here hb2
  have HR2 : Hid (NRd w.heap.size w2 (w.heap.size + 1) S.2) := HR1.out.here HB1.out.size hb2
  have HN2 : Hid (Br.NewKids w.heap.size w2 v2 (Br.decD z S.1)) := hn2.mono HB1.out.size
  obtain ⟨vp, vk, FK, e2, hvp, hvk, _⟩ := hn2.is
  obtain ⟨p1, q1, f1⟩ := own_form' hvp.own
  obtain ⟨p2, q2, f2⟩ := own_form' hvk.own
  subst f1 f2 e2
  clear hvp hvk hn2 hb2 HDE
  by_cases hd : decK z S.1 = none
  · have HNO : Hid (NoNode z b) := HKF.out hd
    have HER : Hid (Br.decErr z S.1 = 65) := by unfold Hid Br.decErr; rw [if_neg (by simpa using hz), hd]; rfl
    rw [HER.out]
    have hx3 := fun o => HX2.out.here (below_new w2 o)
    have t0 : ∀ o, (w2.alloc o).cell? ⟨w.heap.size, 0, none⟩ = some (.slice none 0 0) := fun o => (hx3 o).cells.1
    have t1 : ∀ o, (w2.alloc o).cell? ⟨w.heap.size, 1, none⟩ = some (.slice none 0 0) := fun o => (hx3 o).cells.2.1
    have t2 : ∀ o, (w2.alloc o).cell? ⟨w.heap.size, 2, none⟩ = some (.slice none 0 0) := fun o => (hx3 o).cells.2.2
    have o0 : ∀ o i, (w2.alloc o).frozen? ⟨w.heap.size, i, none⟩ = false := fun o i => (hx3 o).open i
    clear hd hx3
    go_wp2
    have hkp := putN_keep (B := w.heap.size) (.slice none 0 0) (.slice none 0 0) (.slice none 0 0) (HX2.out.here (below_new w2 (.cells #[.slice p1 (Br.decD z S.1).ps.length q1, .slice p2 FK.length q2] 28))) (Nat.le_refl _)
    exact bodyPost_ret (ret_node rfl rfl rfl (putN_box (.slice none 0 0) (.slice none 0 0) (.slice none 0 0) (HX2.out.here (below_new _ _)))) rfl ⟨none, 0, 0, none, 0, 0, none, 0, 0, false, rfl, (HB2.out.alloc HB2.out.size _).trans hkp.low, fun _ => HNO.out, fun h => (by cases h)⟩
  · obtain ⟨d, hd'⟩ : ∃ d, decK z S.1 = some d := by
      cases h : decK z S.1 with
      | none => exact absurd h hd
      | some d => exact ⟨d, rfl⟩
    obtain ⟨hck, hSe, hbe⟩ := HKO.out d hd'
    have HER : Hid (Br.decErr z S.1 = 0) := by unfold Hid Br.decErr; rw [if_neg (by simpa using hz), hd']; rfl
    have HDD : Hid (Br.decD z S.1 = d) := by unfold Hid Br.decD; rw [hd']; rfl
    rw [HER.out, HDD.out]
    obtain ⟨R, hR⟩ : ∃ R, R = b.drop (encK d).length := ⟨_, rfl⟩
    rw [← hR] at hSe hbe
    have hS2 : S.2 = (R, false) := by rw [hSe]
    rw [hS2] at HR2
    rw [HDD.out] at HN2
    have HCK : Hid (checkK z d = 0) := hck
    have HBE : Hid (b = encK d ++ R) := hbe
    obtain ⟨n1, hn1⟩ : ∃ n1, n1 = d.ps.length := ⟨_, rfl⟩
    rw [← hn1] at HN2 ⊢
    obtain ⟨W4, hW4⟩ : ∃ W4, W4 = (w2.alloc (.cells #[.slice p1 n1 q1, .slice p2 FK.length q2] 28)).alloc (.cells #[.slice p1 n1 q1, .slice p2 FK.length q2, .slice none 0 0] 31) := ⟨_, rfl⟩
    have es4 : (w2.alloc (.cells #[.slice p1 n1 q1, .slice p2 FK.length q2] 28)).heap.size = w2.heap.size + 1 := by simp
    have HB24 : Hid (Below w2.heap.size w2 W4) := by rw [hW4]; exact (below_new _ _).alloc (by rw [es4]; omega) _
    have HB4 : Hid (Below w.heap.size w W4) := HB2.out.trans (HB24.out.mono HB2.out.size)
    have HX4 : Hid (NBox W4 w.heap.size (.slice none 0 0) (.slice none 0 0) (.slice none 0 0)) := HX2.out.here HB24.out
    have HX9 : Hid (NBox W4 (w2.heap.size + 1) (.slice p1 n1 q1) (.slice p2 FK.length q2) (.slice none 0 0)) := by rw [Hid, hW4, ← es4]; exact NBox.new _ _ _ _
    have HR4 : Hid (NRd w.heap.size W4 (w.heap.size + 1) (R, false)) := HR2.out.here HB2.out.size HB24.out
    have HN4 : Hid (Br.NewKids w.heap.size W4 (.agg #[.slice p1 n1 q1, .slice p2 FK.length q2]) d) := HN2.out.here HB24.out
    have HFAR : Hid (w.heap.size < w2.heap.size + 1) := by have := HB2.out.size; rw [Hid]; omega
    have HT4 := HTK.out W4 (R, false) 4 HR4.out (by decide)
    clear hd hd' hck hSe hbe hS2 hR hn1 HKF HKO HS HDD HER HX2 HR2 HN2 HX1 HR1 HB1 HX0 HRD
    go_wp2_with fail
    rw [← hW4]
    clear hW4
    refine HT4.mono ?_
    rintro r w5 ⟨u5, rfl, hu5, hrd5, hk5⟩
    have HB5 : Hid (Below w.heap.size w w5) := HB4.out.trans hk5.low
    have HNU := nnumber_any (hu5.at HB5.out.size) (takeS_short _ _)
    have HM5 : Hid (∃ rest sh, MsgsTo w w5 z b (num (takeS (R, false) 4).1) d (w2.heap.size + 1) (.slice p1 n1 q1) (.slice p2 FK.length q2) (.slice none 0 0) [] rest sh) := by
      by_cases hl : R.length < 4
      · refine ⟨R, true, HX4.out.keep hk5 (by decide), HX9.out.keep hk5 (by decide), HFAR.out, new_kids_keep HN4.out hk5 (by decide) (by decide) (by decide), NewMsgs.nil _ _, ?_, HB5.out, .inr ⟨rfl, ?_, four_fail HCK.out HBE.out hl⟩⟩
        · unfold takeS at hrd5; rw [if_pos hl] at hrd5; exact hrd5
        · unfold takeS; rw [if_pos hl]; rfl
      · refine ⟨R.drop 4, false, HX4.out.keep hk5 (by decide), HX9.out.keep hk5 (by decide), HFAR.out, new_kids_keep HN4.out hk5 (by decide) (by decide) (by decide), NewMsgs.nil _ _, ?_, HB5.out, .inl ⟨rfl, ?_⟩⟩
        · unfold takeS at hrd5; rw [if_neg hl] at hrd5; exact hrd5
        · unfold takeS; rw [if_neg hl]; exact four_ok HCK.out HBE.out (Nat.le_of_not_lt hl)
    have hN : num (takeS (R, false) 4).1 < 4294967296 := by
      have h1 := num_bound (takeS (R, false) 4).1
      have h2 : (takeS (R, false) 4).1.length ≤ 4 := takeS_short _ _
      have h3 : 256 ^ (takeS (R, false) 4).1.length ≤ 256 ^ 4 := Nat.pow_le_pow_right (by decide) h2
      omega
    obtain ⟨N, hN0⟩ : ∃ N, N = num (takeS (R, false) 4).1 := ⟨_, rfl⟩
    rw [← hN0] at HNU HM5 hN
    obtain ⟨p5, q5, f5⟩ := hu5.form
    subst f5
    obtain ⟨B9, hB9⟩ : ∃ B9, B9 = w2.heap.size + 1 := ⟨_, rfl⟩
    rw [← hB9] at HM5 ⊢
    clear hu5 hrd5 hk5 hN0 HT4 HX4 HX9 HR4 HN4 HB4 HB24 HBE HFAR hB9 es4
    go_wp2_with fail
    refine HNU.mono ?_
    rintro r w6 ⟨rfl, hw6⟩
    obtain rfl := hw6.symm
    clear HNU
    go_wp2_with fail
    go_loopw [29] (fun i wx => ∃ (k : Nat) (vm : Value) (F : List Mt) (rest : Key) (sh : Bool), k ≤ N ∧ i = .int .i64 k ∧ F.length = k ∧ MsgsTo w wx z b N d B9 (.slice p1 n1 q1) (.slice p2 FK.length q2) vm F rest sh) (fun i _ => N - (intOf i).toNat)
    case atStart =>
      obtain ⟨rest, sh, hm⟩ := HM5.out
      exact ⟨0, _, [], rest, sh, by omega, rfl, rfl, hm⟩
    case round =>
      obtain ⟨k, vm, F, rest, sh, hk, rfl, hFl, hto⟩ := hrel
      obtain ⟨pm, qm, fm⟩ := own_form' hto.msgs.own
      subst fm
      have HFL : Hid (F.length = k) := hFl
      have hF400 : F.length ≤ 4294967296 := by omega
      by_cases hlt : k < N
      · have hzl : (k : Int) < (N : Int) := by omega
        have hinv : sh = false ∧ ReadN z b N d (msOf F) rest := by
          rcases hto.inv with h | h
          · exact h
          · omega
        obtain ⟨hsh, hrn⟩ := hinv
        subst hsh
        have HTO : Hid (MsgsTo w wr z b N d B9 (.slice p1 n1 q1) (.slice p2 FK.length q2) (.slice pm F.length qm) F rest false) := hto
        have HRN : Hid (ReadN z b N d (msOf F) rest) := hrn
        obtain ⟨vr, hbx, hvr⟩ := hto.rd.is
        simp only at hbx hvr
        obtain ⟨pr, qr, fr⟩ := hvr.form
        subst fr
        have HRB : Hid (NRBox wr (w.heap.size + 1) (.slice pr rest.length qr) false) := hbx
        have HRV : Hid (KeyIn w.heap.size wr (.slice pr rest.length qr) rest) := hvr
        obtain ⟨x0, x1⟩ := hbx.cell
        have hwr := hto.low.size
        have HBR : Hid (Below w.heap.size w wr) := hto.low
        have hml : msgLong rest ≤ 200000 := by unfold msgLong; have := numAt_lt rest 9; have := numAt_lt rest 11; omega
        clear hto hrn hbx hvr hFl
        have HCO : Hid (∀ W', Calls Try.prog 16 #[.int .i64 1] W' fun r w' => ∃ u, r = .returned u ∧ (NewKey W'.heap.size w' u (four 1) ∧ Below W'.heap.size W' w')) := fun W' => (countOf_any W' 1 (by decide)).mono fun r w' ⟨v', h1, h2, h3⟩ => ⟨v', h1, h2, h3⟩
        have HML : Hid (∀ W', Below wr.heap.size wr W' → Calls Try.prog 48 #[.slice pr rest.length qr] W' fun r w' => r = .returned (.int .i64 (msgLong rest : Nat)) ∧ w' = W') := fun W' hb => msgLong_any ((HRV.out.below (hb.mono hwr)).at (Nat.le_trans hwr hb.size))
        have HTL : Hid (∀ W', Below wr.heap.size wr W' → Calls Try.prog 44 #[.pointer (some ⟨w.heap.size + 1, 0, none⟩), .int .i64 (msgLong rest : Nat)] W' fun e w' => ∃ u, e = .returned u ∧ (KeyIn w.heap.size w' u (takeS (rest, false) (msgLong rest)).1 ∧ NRd w.heap.size w' (w.heap.size + 1) (takeS (rest, false) (msgLong rest)).2 ∧ Keep 81 w.heap.size W' w')) := fun W' hb =>
          (HTK.out W' (rest, false) (msgLong rest) (HTO.out.rd.here hwr hb) (by omega)).mono fun e w' ⟨u, h1, h2, h3, h4⟩ => ⟨u, h1, h2, h3, h4⟩
        have HDC : Hid (∀ W' v t, KeyIn W'.heap.size W' v t → Calls Try.prog 47 #[.int .i64 z, v] W' fun r w' => ∃ u, r = .returned u ∧ DecodePost W' z t (.returned u) w') := fun W' v t h => (decode_any h).mono fun r w' hp => by
          obtain ⟨v', F', e, h1⟩ := hp.is
          exact ⟨_, e, ⟨v', F', rfl, h1⟩⟩
        obtain ⟨ML, hML⟩ : ∃ ML, ML = msgLong rest := ⟨_, rfl⟩
        have HLEN : Hid ((takeS (rest, false) ML).1.length ≤ 200000) := by have := takeS_short (rest, false) ML; rw [Hid]; omega
        rw [← hML] at HML HTL hml
        obtain ⟨TS, hTS⟩ : ∃ TS, TS = takeS (rest, false) ML := ⟨_, rfl⟩
        rw [← hTS] at HTL HLEN
        have HTS : Hid (TS = takeS (rest, false) (msgLong rest)) := by rw [Hid, hTS, hML]
        clear hML hTS
        go_wp2_with fail
        go_cut [10, 11] (fun s10 s11 wx => OneRead w wr z (four 1 ++ TS.1) TS.2 (.tuple #[s10, s11]) wx)
        case first =>
          go_region_law
            (first
              | (refine step_callN (by rfl) 16 (Go.Proofs.enters_of Try.func16 (by kernel_rfl) rfl) _ _ (by rfl) _ _ (by rfl) (by exact HCO.out _) ?_
                 intro u7 w7 hr7
                 have hb7 := hr7.2
                 have HB7 : Hid (Below wr.heap.size wr w7) := (by first | exact hb7 | exact (Below.refl _ wr).drew.trans (hb7.mono (Below.size ((Below.refl wr.heap.size wr).drew))))
                 obtain ⟨y0, y1⟩ := (HRB.out.here HB7.out).cell
                 obtain ⟨p7, q7, f7⟩ := (NewKey.in hr7.1).form
                 subst f7
                 have HN7 : Hid (NewKey wr.heap.size w7 (.slice p7 (four 1).length q7) (four 1)) := hr7.1.mono (by first | exact Nat.le_refl _ | exact Below.size ((Below.refl wr.heap.size wr).drew))
                 clear hr7 hb7)
              | (refine Br.step_call1 (by rfl) 48 (Go.Proofs.enters_of Try.func48 (by kernel_rfl) rfl) _ _ (by rfl) _ _ (by rfl) (by exact HML.out _ HB7.out) ?_)
              | (refine step_call2 (by rfl) 44 (Go.Proofs.enters_of Try.func44 (by kernel_rfl) rfl) _ _ _ _ (by rfl) _ _ _ (by rfl) (by rfl) (by exact HTL.out _ HB7.out) ?_
                 intro u8 w8 hr8
                 obtain ⟨p8, q8, f8⟩ := hr8.1.form
                 subst f8
                 have HK8 : Hid (Keep 81 w.heap.size w7 w8) := hr8.2.2
                 have HS8 : Hid (w.heap.size ≤ w8.heap.size) := Nat.le_trans hwr (Nat.le_trans HB7.out.size hr8.2.2.low.size)
                 have HI8 : Hid (KeyAt w8 (.slice p8 TS.1.length q8) TS.1) := hr8.1.at HS8.out
                 have HR8 : Hid (NRd w.heap.size w8 (w.heap.size + 1) TS.2) := hr8.2.1
                 have HN8 : Hid (NewKey wr.heap.size w8 (.slice p7 (four 1).length q7) (four 1)) := HN7.out.keep hr8.2.2 (by decide)
                 have HZ8 : Hid (wr.heap.size ≤ w8.heap.size) := Nat.le_trans HB7.out.size hr8.2.2.low.size
                 clear hr8)
              | (refine step_append_key (by rfl) _ _ (by rfl) wr.heap.size _ _ (four 1) TS.1 (by rfl) (by exact HN8.out) (by rfl) (by exact HI8.out) (by have := HLEN.out; rw [four_length]; omega) (by exact HZ8.out) ?_
                 intro v9 w9 hv9 hk9 _
                 obtain ⟨p9, q9, f9⟩ := hv9.in.form
                 subst f9
                 have HB9 : Hid (Below wr.heap.size w8 w9) := hk9.low
                 have HI9 : Hid (KeyIn w9.heap.size w9 (.slice p9 ((four 1).length + TS.1.length) q9) (four 1 ++ TS.1)) := (by have h9 := hv9.in; rw [List.length_append] at h9; exact h9)
                 clear hv9 hk9)
              | (refine step_call2 (by rfl) 47 (Go.Proofs.enters_of Try.func47 (by kernel_rfl) rfl) _ _ _ _ (by rfl) _ _ _ (by rfl) (by rfl) (by exact HDC.out _ _ _ HI9.out) ?_
                 intro u10 w10 hr10
                 have hp10 := hr10
                 obtain ⟨vx, Fx, ex, _⟩ := hr10.is
                 cases ex
                 have HONE : Hid (OneRead w wr z (four 1 ++ TS.1) TS.2 _ w10) := ⟨w9, keep_via ((Keep.of HB7.out hwr).trans HK8.out) HB9.out hwr, HR8.out.via HB9.out HRB.out.lt hwr, Nat.le_trans HZ8.out HB9.out.size, hp10⟩
                 clear hr10 hp10))
          all_goals
            simp [Act.put]
            go_wp2_with fail
            go_meet
            exact HONE.out
        case rest =>
          obtain ⟨w9, hkp, hrd9, hsz9, hdp⟩ := hcut.is
          obtain ⟨vx, Fx, ex, hmx, hnx, _, hbx⟩ := hdp.is
          cases ex
          have h9 : w.heap.size ≤ w9.heap.size := Nat.le_trans hwr hsz9
          have HTO9 : Hid (∀ w' v' r, Keep 48 w.heap.size wc w' → w'.ownsRow w.heap.size 48 5 v' (F ++ Fx).length (flatM (F ++ Fx)) → NRd w.heap.size w9 (w.heap.size + 1) (r, false) → ReadN z b N d (msOf (F ++ Fx)) r → NBox w' B9 (.slice p1 n1 q1) (.slice p2 FK.length q2) (.slice pm F.length qm) ∧ MsgsTo w (w'.setCell ⟨B9, 2, none⟩ v') z b N d B9 (.slice p1 n1 q1) (.slice p2 FK.length q2) v' (F ++ Fx) r false) := fun w' v' r hm ho hr hrn =>
            HTO.out.over hkp hr hbx hm ho ⟨own_mono hnx.own h9, fun e he => (hnx.ms e he).mono h9⟩ hrn
          have HX0c : Hid (NBox wc w.heap.size (.slice none 0 0) (.slice none 0 0) (.slice none 0 0)) := (HTO.out.box0.keep hkp (by decide)).here hbx
          have HX9c : Hid (NBox wc B9 (.slice p1 n1 q1) (.slice p2 FK.length q2) (.slice pm F.length qm)) := (HTO.out.box9.keep hkp (by decide)).here hbx
          have HBC : Hid (Below w.heap.size w wc) := (HBR.out.trans hkp.low).trans (hbx.mono h9)
          have HVM : Hid (wc.ownsRow w.heap.size 48 5 (.slice pm F.length qm) F.length (flatM F)) := own_same (own_keep HTO.out.msgs.own hkp (by decide)) fun b _ hl => hbx.block b hl
          obtain ⟨px, qx, fx⟩ := own_form' hnx.own
          subst fx
          have HNX : Hid (NewMsgs w9.heap.size wc (.slice px Fx.length qx) Fx) := hnx
          by_cases hdb : decB z (four 1 ++ TS.1) = none
          · have hde := decR_no hz hdb
            rw [hde]
            have HNO : Hid (NoNode z b) := msg_fail HRN.out (by rw [msOf_length, HFL.out]; exact hlt) (by rw [← HTS.out]; exact hdb)
            obtain ⟨y0, y1, y2⟩ := HX0c.out.cells
            have o0 := HX0c.out.open 0
            have o1 := HX0c.out.open 1
            have o2 := HX0c.out.open 2
            clear hcut hkp hrd9 hsz9 hdp hmx hnx hbx hdb hde
            simp only
            go_wp2
            have hkp := putN_keep (B := w.heap.size) (.slice none 0 0) (.slice none 0 0) (.slice none 0 0) HX0c.out (Nat.le_refl _)
            exact bodyPost_ret (ret_node rfl rfl rfl (putN_box (.slice none 0 0) (.slice none 0 0) (.slice none 0 0) HX0c.out)) rfl ⟨none, 0, 0, none, 0, 0, none, 0, 0, false, rfl, HBC.out.trans hkp.low, fun _ => HNO.out, fun h => (by cases h)⟩
          · obtain ⟨L, hL⟩ : ∃ L, decB z (four 1 ++ TS.1) = some L := by
              cases h : decB z (four 1 ++ TS.1) with
              | none => exact absurd h hdb
              | some L => exact ⟨L, rfl⟩
            have hde := decR_yes hz hL
            rw [hde] at hmx
            rw [hde]
            simp only at hmx
            obtain ⟨m, r', e1, e2, hst⟩ := msg_ok HRN.out (L := L) (by rw [← HTS.out]; exact hL)
            rw [← HTS.out] at e2
            have hfx : Fx.length = 1 := by have := congrArg List.length hmx; rw [msOf_length, e1] at this; exact this
            have HST : Hid (ReadN z b N d (msOf (F ++ Fx)) r') := by
              have : msOf (F ++ Fx) = msOf F ++ [m] := by rw [← e1, ← hmx]; simp [msOf]
              rw [Hid, this]; exact hst
            have HRR : Hid (NRd w.heap.size w9 (w.heap.size + 1) (r', false)) := by rw [Hid, ← e2]; exact hrd9
            have hfew := HRN.out.few
            rw [msOf_length] at hfew
            have HMX : Hid (MsgsAt wc.heap.size wc (.slice px Fx.length qx) Fx) := hnx.at (by omega)
            obtain ⟨y0, y1, y2⟩ := HX9c.out.cells
            have HFX : Hid (Fx.length = 1) := hfx
            clear hcut hkp hrd9 hsz9 hdp hmx hnx hbx hdb hde hL e1 e2 hst hfx
            simp only
            go_wp2_with (at_builtin; refine wpList_append_msgs rfl _ _ rfl w.heap.size (.slice pm F.length qm) (.slice px Fx.length qx) F Fx rfl HVM.out rfl HMX.out (by have := HFX.out; omega) HBC.out.size ?_
                         intro v11 w11 ho11 hk11
                         obtain ⟨p11, q11, f11⟩ := own_form' ho11
                         subst f11
                         have hov := HTO9.out w11 _ r' hk11 ho11 HRR.out HST.out
                         have hov2 := hov.2
                         rw [List.length_append] at hov2
                         have HN11 : Hid _ := hov2
                         obtain ⟨s0, s1, s2⟩ := hov.1.cells
                         have so := hov.1.open 2
                         have HL11 : Hid ((F ++ Fx).length = k + 1) := by rw [Hid, List.length_append, HFL.out, HFX.out]
                         clear ho11 hk11 hov hov2)
            exact ⟨⟨k + 1, _, F ++ Fx, r', false, by omega, by go_num, HL11.out, HN11.out⟩, by simp [intOf]; omega⟩
      · have hzl : ¬ (k : Int) < (N : Int) := by omega
        have HKN : Hid (F.length = N) := by rw [Hid]; omega
        have HTO : Hid (MsgsTo w wr z b N d B9 (.slice p1 n1 q1) (.slice p2 FK.length q2) (.slice pm F.length qm) F rest sh) := hto
        obtain ⟨pr, qr, x0, x1⟩ := hto.rd.cells
        obtain ⟨y0, y1, y2⟩ := hto.box9.cells
        obtain ⟨t0, t1, t2⟩ := hto.box0.cells
        have o0 := hto.box0.open 0
        have o1 := hto.box0.open 1
        have o2 := hto.box0.open 2
        have hf9 := hto.far
        have hn1 : B9 ≠ w.heap.size := by omega
        have hn2 : w.heap.size ≠ B9 := by omega
        have hn3 : w.heap.size + 1 ≠ w.heap.size := by omega
        have hn4 : w.heap.size ≠ w.heap.size + 1 := by omega
        have hkp := putN_keep (B := w.heap.size) (.slice p1 n1 q1) (.slice p2 FK.length q2) (.slice pm F.length qm) hto.box0 (Nat.le_refl _)
        have HEND : Hid (NBox (putN wr w.heap.size (.slice p1 n1 q1) (.slice p2 FK.length q2) (.slice pm F.length qm)).drew w.heap.size (.slice p1 n1 q1) (.slice p2 FK.length q2) (.slice pm F.length qm) ∧ Below w.heap.size w (putN wr w.heap.size (.slice p1 n1 q1) (.slice p2 FK.length q2) (.slice pm F.length qm)).drew ∧ NewNode w.heap.size (putN wr w.heap.size (.slice p1 n1 q1) (.slice p2 FK.length q2) (.slice pm F.length qm)).drew (.agg #[.slice p1 n1 q1, .slice p2 FK.length q2, .slice pm F.length qm]) d F) := by
          refine ⟨⟨(putN_box _ _ _ hto.box0).row⟩, (hto.low.trans hkp.low).drew, ?_⟩
          have : NewNode w.heap.size wr (.agg #[.slice p1 n1 q1, .slice p2 FK.length q2, .slice pm F.length qm]) d F := ⟨_, _, _, rfl, hto.kids, hto.msgs⟩
          exact (this.keep hkp (by decide) (by decide) (by decide) (by decide)).here ((Below.refl _ _).drew)
        by_cases hsh : sh = true
        · subst hsh
          have HNO : Hid (NoNode z b) := by
            rcases hto.inv with h | h
            · cases h.1
            · exact h.2.2
          clear hto hkp hFl
          go_wp2_with fail
          go_region
          go_wp2
          exact bodyPost_ret (ret_node rfl rfl rfl HEND.out.1) rfl ⟨p1, n1, q1, p2, FK.length, q2, pm, F.length, qm, false, rfl, HEND.out.2.1, fun _ => HNO.out, fun h => (by cases h)⟩
        · have hsh' : sh = false := by simpa using hsh
          subst hsh'
          have hrn : ReadN z b N d (msOf F) rest := by
            rcases hto.inv with h | h
            · exact h.2
            · cases h.1
          by_cases hre : rest = []
          · have hlz : ((rest.length : Int) == 0) = true := by rw [hre]; rfl
            have HIS : Hid (IsRead z b d F) := by
              rw [hre] at hrn
              have hfew := hrn.few
              rw [msOf_length] at hfew
              obtain ⟨h1, h2⟩ := read_done hrn (by rw [msOf_length]; exact HKN.out)
              exact ⟨HCK.out, h1, h2, hfew, hrn.size⟩
            clear hto hkp hFl hrn hre hsh
            go_wp2_with fail
            go_region
            go_wp2
            exact bodyPost_ret (ret_node rfl rfl rfl HEND.out.1) rfl ⟨p1, n1, q1, p2, FK.length, q2, pm, F.length, qm, true, rfl, HEND.out.2.1, fun h => (by cases h), fun _ => ⟨d, F, HEND.out.2.2, HIS.out⟩⟩
          · have hlz : ((rest.length : Int) == 0) = false := by
              rw [beq_eq_false_iff_ne]
              have : rest.length ≠ 0 := fun h => hre (List.eq_nil_of_length_eq_zero h)
              omega
            have HNO : Hid (NoNode z b) := read_end hrn (by rw [msOf_length]; exact HKN.out) hre
            clear hto hkp hFl hrn hre hsh
            go_wp2_with fail
            go_region
            go_wp2
            exact bodyPost_ret (ret_node rfl rfl rfl HEND.out.1) rfl ⟨p1, n1, q1, p2, FK.length, q2, pm, F.length, qm, false, rfl, HEND.out.2.1, fun _ => HNO.out, fun h => (by cases h)⟩
end Go.Proofs.Ytpmcpomomagkhaa
