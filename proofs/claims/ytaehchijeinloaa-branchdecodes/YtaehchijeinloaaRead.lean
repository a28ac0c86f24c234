/- read. -/
import Derived.Test.YtaehchijeinloaaEnc
import Derived.Deep.AppendLies
namespace Go.Proofs.Ytaehchijeinloaa
open Go.RowKit

theorem ret_kids2 {fn : Func} {p q : Tmp} (h : fn.results = #[.cell p 26, .tmp q]) {tmps : Array Value} {w : World} {b : Nat} {x y u : Value} (hp : tmps.getD p undef = .pointer (some ⟨b, 0, none⟩)) (hq : tmps.getD q undef = u) (hB : KBox w b x y) :
    (results fn tmps).run Try.prog w = .ok (.tuple #[.agg #[x, y], u]) w := by
  have e1 := run_loadVar_row (P := Try.prog) w b 26 26 #[x, y] (0, 0) _ hB.row Try.underlying26 rfl infoKs
  have hp' : tmps[p]?.getD undef = .pointer (some ⟨b, 0, none⟩) := by simpa using hp
  have hq' : tmps[q]?.getD undef = u := by simpa using hq
  simp [results, h, hp', hq', asAddr, e1]

theorem KeyIn.drop {B : Nat} {w : World} {g off c n : Nat} {ks : Key} (h : KeyIn B w (.slice (some ⟨g, off, none⟩) n c) ks) (K : Nat) (hK : K ≤ ks.length) : KeyIn B w (.slice (some ⟨g, off + K, none⟩) (n - K) (c - K)) (ks.drop K) := by
  obtain ⟨⟨a, c', e, h1, h2, h3⟩, h4⟩ := h
  cases e
  refine ⟨⟨_, c - K, by rw [List.length_drop], fun j b hj => ?_, by rw [List.length_drop]; omega, fun e => by cases e⟩, by rw [List.length_drop]; omega⟩
  rw [List.getElem?_drop] at hj
  obtain ⟨g', off', e1, hg, hc⟩ := h1 (K + j) b hj
  cases e1
  exact ⟨g, off + K, rfl, hg, by rw [Nat.add_assoc]; exact hc⟩
theorem KeyIn.take {B : Nat} {w : World} {a : Option Addr} {n c : Nat} {ks : Key} (h : KeyIn B w (.slice a n c) ks) (K c' : Nat) (hK : K ≤ ks.length) (hc : K ≤ c') (hc2 : c' ≤ c) : KeyIn B w (.slice a K c') (ks.take K) := by
  obtain ⟨⟨a', c'', e, h1, h2, h3⟩, h4⟩ := h
  cases e
  refine ⟨⟨a, c', by rw [List.length_take, Nat.min_eq_left hK], h1.take K, by rw [List.length_take]; omega, fun e => ?_⟩, by rw [List.length_take]; omega⟩
  have := h3 e; omega
theorem KeyIn.void {B : Nat} {w : World} (a : Addr) (c : Nat) : KeyIn B w (.slice (some a) 0 c) [] :=
  ⟨⟨some a, c, rfl, fun j b hj => by simp at hj, Nat.zero_le _, fun e => by cases e⟩, by decide⟩
theorem KeyIn.lies {B : Nat} {w : World} {a : Option Addr} {n c : Nat} {ks : Key} (h : KeyIn B w (.slice a n c) ks) (h0 : 0 < ks.length) : n = ks.length ∧ ks.length ≤ c ∧ ∃ g off, a = some ⟨g, off, none⟩ := by
  obtain ⟨⟨a', c'', e, h1, h2, h3⟩, h4⟩ := h
  cases e
  obtain ⟨x, hx⟩ : ∃ x, ks[0]? = some x := ⟨ks[0], List.getElem?_eq_getElem h0⟩
  obtain ⟨g, off, e, _⟩ := h1 0 x hx
  exact ⟨rfl, h2, g, off, e⟩

theorem Keep.grown {base e : Nat} {w w' : World} {v : Value} {n : Nat} {xs : List Value} (hv : w.ownsRow base e 1 v n xs) (hg : w.grownBy w' v.ownBlock) (hB : base ≤ w.heap.size) : Keep e base w w' := by
  refine ⟨(Below.refl _ _).grown hg hB (fun k e => (own_type hv k e).2.1), fun k cur t z ht hk => ?_⟩
  obtain ⟨_, _, _, _, hbl⟩ := hg
  rw [hbl k (Array.getElem?_eq_some_iff.1 hk).1]
  · exact hk
  · intro e
    obtain ⟨_, _, cur', h'⟩ := own_type hv k e.symm
    rw [hk] at h'
    simp only [Option.some.injEq, Obj.cells.injEq] at h'
    exact ht h'.2.1
theorem Keep.draws {T B : Nat} {a w : World} (h : Keep T B a w) (n : Nat) : Keep T B a (w.drewN n) := ⟨below_draws h.low n, h.typ⟩
theorem Keep.mono {T B B' : Nat} {a w : World} (h : Keep T B a w) (hB : B' ≤ B) : Keep T B' a w := ⟨h.low.mono hB, h.typ⟩
theorem KBox.keep {T B : Nat} {w w' : World} {b : Nat} {x y : Value} (h : KBox w b x y) (hk : Keep T B w w') (hT : 26 ≠ T) : KBox w' b x y := ⟨hk.typ _ _ _ _ hT h.row⟩
theorem one_src (w : World) (T : TypeId) (u : Value) : ∀ (j : Nat) (x : Value), [u][j]? = some x → (w.alloc (.cells #[u] T)).cell? ((⟨w.heap.size, 0, none⟩ : Addr).add j) = some x :=
  World.news_of_block (cs := #[u]) (heap_alloc_last w _)

theorem eval_func (a : Act) (N : Nat) : a.eval (.func N) = .func (.func N) #[] #[] := rfl
/-- A call of a function that changes nothing, as a step of a region that draws its order. -/
theorem step_call1 {w : World} {ops : Array Oper} {o : Oper} {a : Act} {K : Act → World → Prop} {Q : Exit → Act → World → Prop} {E : Prop} (hgd : o.guard = none) (N : Nat) (hE : Go.Proofs.Enters Try.prog N) (x : Operand) (t : TypeId)
    (ho : o.op = .call { callee := .value (.func N), args := #[x], argTypes := #[t] }) (v u : Value) (hx : a.eval x = v) (hc : Calls Try.prog N #[v] w fun r w' => r = .returned u ∧ w' = w) (h : K (a.put o.dst u) w) :
    if Region.wanted o (yielded ops a.tmps) = true then Oper.wp Try.prog o a w K Q else E := by
  have hw : Region.wanted o (yielded ops a.tmps) = true := by simp [Region.wanted, hgd]
  rw [if_pos hw]
  unfold Oper.wp
  simp [execOp, ho, resolve, invoke, Deferred.ofValue, hx, eval_func, hE #[v] w]
  show Calls Try.prog N _ w _
  refine hc.mono ?_
  rintro r w' ⟨rfl, rfl⟩
  exact h

/-- Numbers that are read, one behind the other: the box of the result, the box in which they gather. -/
structure PagesRead (w : World) (g : Nat) (wx : World) (n : Nat) (vp : Value) (ps : List Int) : Prop where
  box0 : KBox wx w.heap.size (.slice none 0 0) (.slice none 0 0)
  box1 : KBox wx g vp (.slice none 0 0)
  ints : NewInts w.heap.size wx vp ps
  low : Below w.heap.size w wx
  len : ps.length = n
  far : w.heap.size < g
theorem PagesRead.step {w wx w1 w2 : World} {n g : Nat} {vp vp' : Value} {ps : List Int} {p : Int} (h : PagesRead w g wx n vp ps) (h1 : Below wx.heap.size wx w1) (hk : Keep 3 w.heap.size w1 w2) (ho : w2.ownsRow w.heap.size 3 1 vp' (n + 1) (ps.map encI ++ [encI p])) :
    PagesRead w g (w2.setCell ⟨g, 0, none⟩ vp') (n + 1) vp' (ps ++ [p]) := by
  have hs := h.low.size
  have hK : Keep 3 w.heap.size wx w2 := (Keep.of h1 hs).trans hk
  have b1 := h.box1.keep hK (by decide)
  have hK2 : Keep 26 w.heap.size w2 (w2.setCell ⟨g, 0, none⟩ vp') := keep_set b1.row (Nat.le_of_lt h.far) _
  refine ⟨(h.box0.keep hK (by decide)).other _ (by have := h.far; omega), b1.set0 _, ⟨?_⟩, (h.low.trans hK.low).trans hK2.low, by simp [h.len], h.far⟩
  have e : (ps ++ [p]).length = n + 1 := by simp [h.len]
  rw [e, List.map_append]
  exact own_same ho fun b hb _ => by
    obtain ⟨_, _, cur, hc⟩ := own_type ho b hb
    exact (hK2.typ _ _ _ _ (by decide) hc).trans hc.symm
theorem PagesRead.mid {w wx w1 w2 : World} {n g : Nat} {vp : Value} {ps : List Int} (h : PagesRead w g wx n vp ps) (h1 : Below wx.heap.size wx w1) (hk : Keep 3 w.heap.size w1 w2) : KBox w2 g vp (.slice none 0 0) :=
  h.box1.keep ((Keep.of h1 h.low.size).trans hk) (by decide)
theorem PagesRead.down {w wx w1 w2 : World} {n g i : Nat} {vp vp' : Value} {ps : List Int} (h : PagesRead w g wx n vp ps) (h1 : Below wx.heap.size wx w1) (hk : Keep 3 w.heap.size w1 w2) : Below w.heap.size wx (w2.setCell ⟨g, i, none⟩ vp') :=
  Below.setCell (p := ⟨g, i, none⟩) ((h1.mono h.low.size).trans hk.low) (Nat.le_of_lt h.far) _
/-- Keys that are read: they lie in what was handed in. -/
structure KeysRead (w : World) (g : Nat) (wx : World) (vp vk : Value) (ps : List Int) (F : List Kc) : Prop where
  box0 : KBox wx w.heap.size (.slice none 0 0) (.slice none 0 0)
  box1 : KBox wx g vp vk
  ints : NewInts w.heap.size wx vp ps
  row : wx.ownsRow w.heap.size 27 1 vk F.length (F.map Kc.v)
  keys : ∀ e ∈ F, KeyIn w.heap.size wx e.v e.k
  low : Below w.heap.size w wx
  far : w.heap.size < g
theorem KeysRead.step {w wx w1 w2 : World} {g : Nat} {vp vk vk' : Value} {ps : List Int} {F : List Kc} {e : Kc} (h : KeysRead w g wx vp vk ps F) (h1 : Below wx.heap.size wx w1) (hk : Keep 27 w.heap.size w1 w2) (ho : w2.ownsRow w.heap.size 27 1 vk' (F.length + 1) (F.map Kc.v ++ [e.v])) (he : KeyIn w.heap.size wx e.v e.k) :
    KeysRead w g (w2.setCell ⟨g, 1, none⟩ vk') vp vk' ps (F ++ [e]) := by
  have hs := h.low.size
  have hK : Keep 27 w.heap.size wx w2 := (Keep.of h1 hs).trans hk
  have b1 := h.box1.keep hK (by decide)
  have hK2 : Keep 26 w.heap.size w2 (w2.setCell ⟨g, 1, none⟩ vk') := keep_set b1.row (Nat.le_of_lt h.far) _
  have hlow : Below w.heap.size wx (w2.setCell ⟨g, 1, none⟩ vk') := hK.low.trans hK2.low
  refine ⟨(h.box0.keep hK (by decide)).other _ (by have := h.far; omega), b1.set1 _, (h.ints.keep hK (by decide)).keep hK2 (by decide), ?_, fun x hx => ?_, h.low.trans hlow, h.far⟩
  · have e1 : (F ++ [e]).length = F.length + 1 := by simp
    rw [e1, List.map_append]
    exact own_same ho fun b hb _ => by
      obtain ⟨_, _, cur, hc⟩ := own_type ho b hb
      exact (hK2.typ _ _ _ _ (by decide) hc).trans hc.symm
  · rcases List.mem_append.1 hx with h' | h'
    · exact (h.keys x h').below hlow
    · simp at h'; rw [h']; exact he.below hlow

theorem KeysRead.down {w wx w1 w2 : World} {g i : Nat} {vp vk vk' : Value} {ps : List Int} {F : List Kc} (h : KeysRead w g wx vp vk ps F) (h1 : Below wx.heap.size wx w1) (hk : Keep 27 w.heap.size w1 w2) : Below w.heap.size wx (w2.setCell ⟨g, i, none⟩ vk') :=
  Below.setCell (p := ⟨g, i, none⟩) ((h1.mono h.low.size).trans hk.low) (Nat.le_of_lt h.far) _
theorem KeysRead.mid {w wx w1 w2 : World} {g : Nat} {vp vk : Value} {ps : List Int} {F : List Kc} (h : KeysRead w g wx vp vk ps F) (h1 : Below wx.heap.size wx w1) (hk : Keep 27 w.heap.size w1 w2) : KBox w2 g vp vk :=
  h.box1.keep ((Keep.of h1 h.low.size).trans hk) (by decide)
/-- What read says. -/
structure ReadPost (w : World) (b : Key) (r : Ending) (w' : World) : Prop where
  is : ∃ (vp vk : Value) (ps : List Int) (F : List Kc) (ok : Bool), r = .returned (.tuple #[.agg #[vp, vk], .bool ok]) ∧ NewInts w.heap.size w' vp ps ∧ NewKeys w.heap.size w' vk F ∧ Below w.heap.size w w' ∧
    ((readK b = none ∧ ok = false ∧ ps = [] ∧ F = []) ∨ ∃ t, readK b = some (⟨ps, keysOf F⟩, t) ∧ ok = decide (t = []))
theorem ReadPost.no {w w' : World} {b : Key} (h : readK b = none) (hb : Below w.heap.size w w') : ReadPost w b (.returned (.tuple #[.agg #[.slice none 0 0, .slice none 0 0], .bool false])) w' :=
  ⟨_, _, [], [], false, rfl, NewInts.nil _ _, NewKeys.nil _ _, hb, .inl ⟨h, rfl, rfl, rfl⟩⟩
theorem KBox.putNil {w0 w : World} {B b : Nat} {x y : Value} (_ : KBox w b x y) (hb : Below B w0 w) (hB : B ≤ b) : Below B w0 ((w.setCell ⟨b, 0, none⟩ (.slice none 0 0)).setCell ⟨b, 1, none⟩ (.slice none 0 0)) := (hb.setCell hB _).setCell hB _

set_option maxHeartbeats 3200000 in
set_option maxRecDepth 100000 in
theorem read_any {w : World} {v : Value} {b : Key} (h : KeyAt w v b) (hl : b.length ≤ 4064) :
    Calls Try.prog 40 #[v] w (ReadPost w b) := by
  obtain ⟨i0, hi, hz0, hz1, hz2⟩ := infoI'
  obtain ⟨i7, hi7, hz70, hz71, hz72⟩ := infoB'
  obtain ⟨a, c, rfl⟩ := h.in.form
  obtain ⟨W, hW⟩ : ∃ W, W = w.alloc (.cells #[.slice none 0 0, .slice none 0 0] 26) := ⟨_, rfl⟩
  have HBW : Hid (Below w.heap.size w W) := by rw [hW]; exact below_new _ _
  have HWS : Hid (W.heap.size = w.heap.size + 1) := by rw [Hid, hW]; simp
  have HX : Hid (KBox W w.heap.size (.slice none 0 0) (.slice none 0 0)) := by rw [hW]; exact KBox.new _ _ _
  have HK : Hid (KeyIn w.heap.size W (.slice a b.length c) b) := h.in.below HBW.out
  obtain ⟨x0, x1⟩ := HX.out.cells
  obtain ⟨f0, f1⟩ := HX.out.open
  clear h
  by_cases h2 : b.length < 2
  · have h2z : (b.length : Int) < 2 := by omega
    have HR : Hid (readK b = none) := by unfold readK; rw [Hid, if_pos h2]
    go_enter Try.func40, Try.ntmps40
    go_upto_region 1 with fail
    rw [← hW]
    clear hW
    go_wp2
    exact bodyPost_ret (ret_kids2 (u := .bool false) rfl rfl rfl (HX.out.put _ _)) rfl (ReadPost.no HR.out (HX.out.putNil HBW.out (Nat.le_refl _)))
  · have h2z : ¬ (b.length : Int) < 2 := by omega
    obtain ⟨_, hcap, ga, oa, ea⟩ := HK.out.lies (by omega)
    subst ea
    have h2c : 2 ≤ c := by omega
    have h2cz : (2 : Int) ≤ (c : Int) := by omega
    obtain ⟨n, hn⟩ : ∃ n, n = num (b.take 2) := ⟨_, rfl⟩
    have HN : Hid (n = num (b.take 2)) := hn
    have hnb : n < 65536 := by
      rw [hn]
      have := num_bound (b.take 2)
      rw [List.length_take, Nat.min_eq_left (by omega)] at this
      simpa using this
    have HNU : Hid (∀ q, Calls Try.prog 56 #[.slice (some ⟨ga, oa, none⟩) 2 c] (W.drewN q) fun r w' => r = .returned (.int .i64 n) ∧ ∃ p, w' = (W.drewN q).drewN p) := fun q => by
      refine (number_any (KeyAt.draws ((HK.out.take 2 c (by omega) h2c (Nat.le_refl _)).at HBW.out.size) q) (by rw [List.length_take]; omega)).mono ?_
      rintro r w' ⟨rfl, rfl⟩
      exact ⟨by rw [HN.out], 0, rfl⟩
    clear hn
    go_enter Try.func40, Try.ntmps40
    go_upto_region 1 with fail
    rw [← hW]
    clear hW
    go_upto_region 3 with fail
    go_cut [4, 5] (fun s4 s5 wx => s4 = .int .i64 n ∧ KeyIn w.heap.size wx s5 (b.drop 2) ∧ ∃ q, wx = W.drewN q)
    case first =>
      rcases Decidable.em (c = 2) with rfl | hc2
      · have HD : Hid (∀ wx n c', n = b.length - 2 ∨ n = 0 → KeyIn w.heap.size wx (.slice (some ⟨ga, oa, none⟩) n c') (b.drop 2)) := fun wx n c' hn => by
          have e : n = 0 := by omega
          rw [List.drop_of_length_le (by omega), e]
          exact KeyIn.void _ _
        go_quiet (first
          | (go_at_call 56; exact Calls.quiet_of (HNU.out _)))
        go_wp2_with fail
        go_meet
        exact ⟨rfl, HD.out _ _ _ (by first | exact .inl rfl | exact .inr rfl), nq, rfl⟩
      · go_quiet (first
          | (go_at_call 56; exact Calls.quiet_of (HNU.out _)))
        go_wp2_with fail
        go_meet
        exact ⟨rfl, (HK.out.drop 2 (by omega)).below (below_draws (Below.refl _ _) _), nq, rfl⟩
    case rest =>
      obtain ⟨rfl, hk5, q, rfl⟩ := hcut
      obtain ⟨a5, c5, rfl⟩ := hk5.form
      have hl5 : (b.drop 2).length = b.length - 2 := List.length_drop
      by_cases h4 : b.length - 2 < 4 * n
      · have h4z : ((b.drop 2).length : Int) < 4 * (n : Int) := by omega
        have HR : Hid (readK b = none) := by unfold readK; rw [Hid, if_neg h2, if_pos (by rw [← HN.out]; exact h4)]
        clear hk5 hl5
        go_wp2
        exact bodyPost_ret (ret_kids2 (u := .bool false) rfl rfl rfl ((HX.out.draws q).put _ _)) rfl (ReadPost.no HR.out ((HX.out.draws q).putNil (below_draws HBW.out q) (Nat.le_refl _)))
      · have h4z : ¬ ((b.drop 2).length : Int) < 4 * (n : Int) := by omega
        obtain ⟨R, hR⟩ : ∃ R, R = b.drop 2 := ⟨_, rfl⟩
        rw [← hR] at hk5 h4z hl5
        have hRl : R.length ≤ 4062 := by omega
        have hRn : 4 * n ≤ R.length := by omega
        have HREAD : Hid (readK b = (readKs (n - 1) (R.drop (4 * n))).map fun x => (⟨readP n R, x.1⟩, x.2)) := by
          unfold readK; rw [Hid, if_neg h2, if_neg (by rw [← HN.out]; exact h4), ← HN.out, ← hR]
        rw [← hR]
        clear hl5 hR h4 h2z
        obtain ⟨W2, hW2⟩ : ∃ W2, W2 = (W.drewN q).alloc (.cells #[.slice none 0 0, .slice none 0 0] 26) := ⟨_, rfl⟩
        have HP0 : Hid (PagesRead w W.heap.size W2 0 (.slice none 0 0) []) := by
          have hb : Below W.heap.size W W2 := by rw [hW2]; exact (below_draws (Below.refl _ _) q).alloc (Nat.le_refl _) _
          have e := HWS.out
          refine ⟨HX.out.here hb, ?_, NewInts.nil _ _, HBW.out.trans (hb.mono HBW.out.size), rfl, by omega⟩
          rw [hW2]
          exact KBox.new (W.drewN q) _ _
        have HK5 : Hid (KeyIn w.heap.size W2 (.slice a5 R.length c5) R) := by
          have hb : Below W.heap.size W W2 := by rw [hW2]; exact (below_draws (Below.refl _ _) q).alloc (Nat.le_refl _) _
          rw [hW2]
          exact hk5.below (((Below.refl _ _).alloc (Nat.le_refl _) _).mono HBW.out.size)
        go_wp2_with fail
        rw [← hW2]
        clear hW2 hk5
        go_loopw [5, 24] (fun s5 i wx => ∃ (k : Nat) (vp : Value) (ps : List Int), k ≤ n ∧ i = .int .i64 k ∧ PagesRead w W.heap.size wx k vp ps ∧ readP n R = ps ++ readP (n - k) (R.drop (4 * k)) ∧ KeyIn w.heap.size wx s5 (R.drop (4 * k))) (fun _ i _ => n - (intOf i).toNat)
        case atStart => exact ⟨0, _, [], by omega, rfl, HP0.out, by simp, by simpa using HK5.out⟩
        case round =>
          obtain ⟨k, vp, ps, hk, rfl, hpr, hrd, hk5⟩ := hrel
          have HPR : Hid (PagesRead w W.heap.size wr k vp ps) := hpr
          have HRD : Hid (readP n R = ps ++ readP (n - k) (R.drop (4 * k))) := hrd
          by_cases hlt : k < n
          · have hzl : (k : Int) < (n : Int) := by omega
            obtain ⟨S, hS⟩ : ∃ S, S = R.drop (4 * k) := ⟨_, rfl⟩
            rw [← hS] at hk5
            have hSl : S.length = R.length - 4 * k := by rw [hS, List.length_drop]
            have hS4 : 4 ≤ S.length := by omega
            have HST : Hid (readP n R = (ps ++ [(num (S.take 4) : Int)]) ++ readP (n - (k + 1)) (S.drop 4)) := by
              rw [Hid, HRD.out, ← hS, show n - k = (n - (k + 1)) + 1 by omega, List.append_assoc]
              rfl
            have HSD : Hid (S.drop 4 = R.drop (4 * (k + 1))) := by rw [Hid, hS, List.drop_drop]; congr 1
            obtain ⟨a6, c6, rfl⟩ := hk5.form
            obtain ⟨_, hcap6, g6, o6, e6⟩ := hk5.lies (by omega)
            subst e6
            have HK6 : Hid (KeyIn w.heap.size wr (.slice (some ⟨g6, o6, none⟩) S.length c6) S) := hk5
            have hc64 : 4 ≤ c6 := by omega
            have hc64z : (4 : Int) ≤ (c6 : Int) := by omega
            have hwr := hpr.low.size
            obtain ⟨av, cv, ev⟩ : ∃ a c, vp = .slice a k c := by
              obtain ⟨a, c, e⟩ := (own_cells hpr.ints.own (by simp)).form
              rw [List.length_map, hpr.len] at e
              exact ⟨a, c, e⟩
            subst ev
            obtain ⟨x0, _⟩ := hpr.box1.cells
            have xa : ∀ o, (wr.alloc o).cell? ⟨W.heap.size, 0, none⟩ = some (.slice av k cv) := fun o => ((hpr.box1.here (below_new _ _)).cells).1
            have HNI : Hid (wr.ownsRow w.heap.size 3 1 (.slice av k cv) k (ps.map encI)) := by
              have := hpr.ints.own
              rw [hpr.len] at this
              exact this
            have HN4 : Hid (∀ W', Below wr.heap.size wr W' → Calls Try.prog 56 #[.slice (some ⟨g6, o6, none⟩) 4 c6] W' fun r w' => r = .returned (.int .i64 (num (S.take 4) : Nat)) ∧ w' = W') := fun W' hb =>
              number_any (((HK6.out.take 4 c6 hS4 hc64 (Nat.le_refl _)).below (hb.mono hwr)).at (Nat.le_trans hwr hb.size)) (by rw [List.length_take]; omega)
            have hnum : num (S.take 4) < 4294967296 := by
              have := num_bound (S.take 4)
              rw [List.length_take, Nat.min_eq_left hS4] at this
              simpa using this
            obtain ⟨m, hm⟩ : ∃ m, m = num (S.take 4) := ⟨_, rfl⟩
            rw [← hm] at HN4 HST hnum
            clear hrd hk5 hSl hS hm hpr HRD
            go_upto_region 9 with fail
            go_cut [32] (fun _ wx => (∃ vp', PagesRead w W.heap.size wx (k + 1) vp' (ps ++ [(m : Int)])) ∧ Below w.heap.size wr wx)
            case first =>
              go_region_law
                (first
                  | (refine step_call1 (by rfl) 56 (Go.Proofs.enters_of Try.func56 (by kernel_rfl) rfl) _ _ (by rfl) _ _ (by rfl) (by exact HN4.out _ (Below.refl _ _).drew) ?_)
                  | (refine step_append_lies _ (by rfl) _ _ 23 (by rfl) w.heap.size 3 i0 (.int .i64 0) 1 8 Try.underlying23 hi hz0 hz1 hz2 rfl (by decide) (.slice av k cv) k (ps.map encI) (by rfl) (by exact own_same HNI.out fun b _ hl => ((Below.refl _ wr).drew.alloc (Nat.le_refl _) _).block b hl) ⟨wr.heap.size, 0, none⟩ 1 1 [encI m] (by rfl) rfl (by exact one_src wr.drew 3 (encI m)) (by intro u hu; simp at hu; subst hu; rfl) (by decide) (by unfold maxLen; omega) (by omega) (by simp; omega) _ rfl ?_
                     intro g7 c7 w7 ho7 hg7 hat7 hlt7
                     have hk7 := Keep.grown (own_same HNI.out fun b _ hl => ((Below.refl _ wr).drew.alloc (Nat.le_refl _) (.cells #[encI m] 3)).block b hl) hg7 (by simp; omega)
                     have HP7 : Hid _ := HPR.out.step (p := (m : Int)) ((Below.refl _ wr).drew.alloc (Nat.le_refl _) _) hk7 ho7
                     have hbx := HPR.out.mid ((Below.refl _ wr).drew.alloc (Nat.le_refl _) _) hk7
                     have HD7 : Hid _ := HPR.out.down (i := 0) (vp' := .slice (some ⟨g7, 0, none⟩) (k + 1) c7) ((Below.refl _ wr).drew.alloc (Nat.le_refl _) _) hk7
                     obtain ⟨y0, _⟩ := hbx.cells
                     obtain ⟨z0, _⟩ := hbx.open
                     clear ho7 hat7 hlt7 hk7 hbx hg7))
              all_goals
                go_wp2_with fail
                go_meet
                exact ⟨⟨_, HP7.out⟩, HD7.out⟩
            case rest =>
              obtain ⟨⟨vp', hp'⟩, hdn⟩ := hcut
              have HPN : Hid (PagesRead w W.heap.size wc (k + 1) vp' (ps ++ [(m : Int)])) := hp'
              have HK8 : Hid (KeyIn w.heap.size wc (.slice (some ⟨g6, o6, none⟩) S.length c6) S) := HK6.out.below hdn
              clear hp' hdn
              rcases Decidable.em (c6 = 4) with rfl | hc6
              · have HD : Hid (∀ n c', n = S.length - 4 ∨ n = 0 → KeyIn w.heap.size wc (.slice (some ⟨g6, o6, none⟩) n c') (R.drop (4 * (k + 1)))) := fun n c' hn => by
                  have e : n = 0 := by omega
                  rw [← HSD.out, List.drop_of_length_le (by omega), e]
                  exact KeyIn.void _ _
                go_wp2
                exact ⟨⟨k + 1, _, _, by omega, by go_num, HPN.out, by rw [← HSD.out]; exact HST.out, HD.out _ _ (by first | exact .inl rfl | exact .inr rfl)⟩, by simp [intOf]; omega⟩
              · have HD : Hid (KeyIn w.heap.size wc (.slice (some ⟨g6, o6 + 4, none⟩) (S.length - 4) (c6 - 4)) (R.drop (4 * (k + 1)))) := by
                  rw [← HSD.out]; exact HK8.out.drop 4 hS4
                go_wp2
                exact ⟨⟨k + 1, _, _, by omega, by go_num, HPN.out, by rw [← HSD.out]; exact HST.out, HD.out⟩, by simp [intOf]; omega⟩
          · have hzl : ¬ (k : Int) < (n : Int) := by omega
            have hkn : k = n := by omega
            have HPS : Hid (ps = readP n R) := by
              have := HRD.out
              rw [hkn, Nat.sub_self] at this
              rw [Hid]
              simpa [readP] using this.symm
            have HPR2 : Hid (KeysRead w W.heap.size wr vp (.slice none 0 0) ps []) := ⟨hpr.box0, hpr.box1, hpr.ints, World.ownsRow_nil _ _ _ _, fun e he => by simp at he, hpr.low, hpr.far⟩
            have hk9 : KeyIn w.heap.size wr u5 (R.drop (4 * n)) := by rw [← hkn]; exact hk5
            obtain ⟨T, hT⟩ : ∃ T, T = R.drop (4 * n) := ⟨_, rfl⟩
            rw [← hT] at hk9 HREAD
            have hTl : T.length ≤ 4062 := by rw [hT, List.length_drop]; omega
            rw [← HPS.out] at HREAD
            obtain ⟨wA, hwA⟩ : ∃ wA, wA = wr := ⟨_, rfl⟩
            rw [← hwA] at hk9 HPR2
            have HK9 : Hid (KeyIn w.heap.size wA u5 T) := hk9
            rw [← hwA]
            obtain ⟨a9, c9, rfl⟩ := hk9.form
            clear hpr hrd hk5 hk9 hT hwA HPR HRD hkn HP0 HK5 hRn hRl
            go_wp2_with fail
            go_loopw [5, 39] (fun s5 i wx => ∃ (j : Nat) (vk : Value) (F : List Kc) (t : Key), j ≤ n - 1 ∧ i = .int .i64 j ∧ KeysRead w W.heap.size wx vp vk ps F ∧ F.length = j ∧ (readKs (n - 1) T = (readKs (n - 1 - j) t).map fun x => (keysOf F ++ x.1, x.2)) ∧ KeyIn w.heap.size wx s5 t ∧ t.length ≤ 4062) (fun _ i _ => (n - 1) - (intOf i).toNat)
            case atStart => exact ⟨0, _, [], T, by omega, rfl, HPR2.out, rfl, by simp [keysOf], HK9.out, hTl⟩
            case round =>
              obtain ⟨j, vk, F, t, hj, rfl, hkr, hFl, hJ, hkt, htl⟩ := hrel
              have HKR : Hid (KeysRead w W.heap.size wr vp vk ps F) := hkr
              have HJ : Hid (readKs (n - 1) T = (readKs (n - 1 - j) t).map fun x => (keysOf F ++ x.1, x.2)) := hJ
              have HFL : Hid (F.length = j) := hFl
              obtain ⟨at5, ct5, rfl⟩ := hkt.form
              have HKT : Hid (KeyIn w.heap.size wr (.slice at5 t.length ct5) t) := hkt
              obtain ⟨x0, x1⟩ := hkr.box0.cells
              obtain ⟨f0, f1⟩ := hkr.box0.open
              have HLOW : Hid (Below w.heap.size w wr) := hkr.low
              have HBX0 : Hid (KBox wr w.heap.size (.slice none 0 0) (.slice none 0 0)) := hkr.box0
              by_cases hlt : j < n - 1
              · have hzl : (j : Int) < (n : Int) - 1 := by omega
                have hS1 : n - 1 - j = (n - 1 - (j + 1)) + 1 := by omega
                by_cases ht2 : t.length < 2
                · have ht2z : (t.length : Int) < 2 := by omega
                  have HR : Hid (readK b = none) := by
                    rw [Hid, HREAD.out, HJ.out, hS1]
                    unfold readKs
                    rw [if_pos ht2]
                    rfl
                  clear hkr hJ hkt hFl hS1
                  go_wp2
                  exact bodyPost_ret (ret_kids2 (u := .bool false) rfl rfl rfl (HBX0.out.put _ _)) rfl (ReadPost.no HR.out (HBX0.out.putNil HLOW.out (Nat.le_refl _)))
                · have ht2z : ¬ (t.length : Int) < 2 := by omega
                  obtain ⟨_, hcapt, gt, ot, et⟩ := hkt.lies (by omega)
                  subst et
                  obtain ⟨m, hm⟩ : ∃ m, m = num (t.take 2) := ⟨_, rfl⟩
                  have hmb : m < 65536 := by
                    rw [hm]
                    have := num_bound (t.take 2)
                    rw [List.length_take, Nat.min_eq_left (by omega)] at this
                    simpa using this
                  have h2ct : 2 ≤ ct5 := by omega
                  have h2ctz : (2 : Int) ≤ (ct5 : Int) := by omega
                  have HN2 : Hid (Calls Try.prog 56 #[.slice (some ⟨gt, ot, none⟩) 2 ct5] wr fun r w' => r = .returned (.int .i64 (m : Nat)) ∧ w' = wr) := by
                    rw [hm]
                    exact number_any ((HKT.out.take 2 ct5 (by omega) h2ct (Nat.le_refl _)).at hkr.low.size) (by rw [List.length_take]; omega)
                  by_cases htm : t.length < 2 + m
                  · have htmz : (t.length : Int) < 2 + (m : Int) := by omega
                    have HR : Hid (readK b = none) := by
                      rw [Hid, HREAD.out, HJ.out, hS1]
                      unfold readKs
                      rw [if_neg ht2, ← hm, if_pos htm]
                      rfl
                    clear hkr hJ hkt hFl hS1 hm
                    go_wp2_with (go_at_call 56; refine HN2.out.mono ?_; rintro r w5 ⟨rfl, hw5⟩; obtain rfl := hw5.symm)
                    exact bodyPost_ret (ret_kids2 (u := .bool false) rfl rfl rfl (HBX0.out.put _ _)) rfl (ReadPost.no HR.out (HBX0.out.putNil HLOW.out (Nat.le_refl _)))
                  · have htmz : ¬ (t.length : Int) < 2 + (m : Int) := by omega
                    have hmc : 2 + m ≤ ct5 := by omega
                    have hmcz : 2 + (m : Int) ≤ (ct5 : Int) := by omega
                    obtain ⟨key, hkey⟩ : ∃ key, key = (t.drop 2).take m := ⟨_, rfl⟩
                    obtain ⟨t', ht'⟩ : ∃ t', t' = t.drop (2 + m) := ⟨_, rfl⟩
                    have hkl : key.length = m := by rw [hkey, List.length_take, List.length_drop]; omega
                    have HKK : Hid (key.length = m) := hkl
                    have HJ2 : Hid (∀ e : Kc, e.k = key → readKs (n - 1) T = (readKs (n - 1 - (j + 1)) t').map fun x => (keysOf (F ++ [e]) ++ x.1, x.2)) := fun e he => by
                      rw [HJ.out, hS1]
                      conv => lhs; unfold readKs
                      rw [if_neg ht2, ← hm, if_neg htm, ← hkey, ← ht', Option.map_map]
                      congr 1
                      funext x
                      simp [keysOf, he]
                    have ht'l : t'.length ≤ 4062 := by rw [ht', List.length_drop]; omega
                    obtain ⟨av, cv, ev⟩ : ∃ a c, vk = .slice a j c := by
                      obtain ⟨a, c, e⟩ := (own_cells hkr.row (by simp)).form
                      rw [List.length_map, hFl] at e
                      exact ⟨a, c, e⟩
                    subst ev
                    obtain ⟨_, y1⟩ := hkr.box1.cells
                    have ya : ∀ o, (wr.alloc o).cell? ⟨W.heap.size, 1, none⟩ = some (.slice av j cv) := fun o => ((hkr.box1.here (below_new _ _)).cells).2
                    have HROW : Hid (wr.ownsRow w.heap.size 27 1 (.slice av j cv) j (F.map Kc.v)) := by
                      have := hkr.row
                      rw [hFl] at this
                      exact this
                    have hwr := hkr.low.size
                    have HTD : Hid (t.drop (2 + m) = t') := ht'.symm
                    have HKD : Hid ((t.drop 2).take m = key) := hkey.symm
                    clear hkr hJ hkt hFl hS1 hm hkey ht' hkl
                    go_wp2_with (go_at_call 56; refine HN2.out.mono ?_; rintro r w5 ⟨rfl, hw5⟩; obtain rfl := hw5.symm)
                    go_cut [61] (fun _ wx => (∃ vk' e, KeysRead w W.heap.size wx vp vk' ps (F ++ [e]) ∧ e.k = key) ∧ Below w.heap.size wr wx)
                    case first =>
                      rcases Decidable.em (m = 0) with hm0 | hm0
                      · have HKV : Hid (KeyIn w.heap.size wr (.slice (some ⟨gt, ot, none⟩) 0 0) key) := by
                          have : key = [] := List.eq_nil_of_length_eq_zero (by rw [HKK.out]; exact hm0)
                          rw [Hid, this]
                          exact KeyIn.void _ _
                        subst hm0
                        go_region_law
                          (refine step_append_lies _ (by rfl) _ _ 24 (by rfl) w.heap.size 27 i7 (.slice none 0 0) 1 24 Try.underlying24 hi7 hz70 hz71 hz72 rfl (by decide) (.slice av j cv) j (F.map Kc.v) (by rfl) (by exact own_same HROW.out fun b _ hl => ((Below.refl _ wr).drew.alloc (Nat.le_refl _) _).block b hl) ⟨wr.heap.size, 0, none⟩ 1 1 [.slice (some ⟨gt, ot, none⟩) 0 0] (by rfl) rfl (by exact one_src wr.drew 27 (.slice (some ⟨gt, ot, none⟩) 0 0)) (by intro u hu; simp at hu; subst hu; rfl) (by decide) (by unfold maxLen; omega) (by omega) (by simp; omega) _ rfl ?_
                           intro g7 c7 w7 ho7 hg7 hat7 hlt7
                           have hk7 := Keep.grown (own_same HROW.out fun b _ hl => ((Below.refl _ wr).drew.alloc (Nat.le_refl _) (.cells #[.slice (some ⟨gt, ot, none⟩) 0 0] 27)).block b hl) hg7 (by simp; omega)
                           have HP7 : Hid _ := HKR.out.step (e := ⟨.slice (some ⟨gt, ot, none⟩) 0 0, key⟩) ((Below.refl _ wr).drew.alloc (Nat.le_refl _) _) hk7 (by rw [HFL.out]; exact ho7) HKV.out
                           have hbx := HKR.out.mid ((Below.refl _ wr).drew.alloc (Nat.le_refl _) _) hk7
                           have HD7 : Hid _ := HKR.out.down (i := 1) (vk' := .slice (some ⟨g7, 0, none⟩) (j + 1) c7) ((Below.refl _ wr).drew.alloc (Nat.le_refl _) _) hk7
                           obtain ⟨_, z1⟩ := hbx.cells
                           obtain ⟨_, v1⟩ := hbx.open
                           clear ho7 hat7 hlt7 hk7 hbx hg7)
                        all_goals
                          go_wp2_with fail
                          go_meet
                          exact ⟨⟨_, _, HP7.out, rfl⟩, HD7.out⟩
                      · have HKV : Hid (KeyIn w.heap.size wr (.slice (some ⟨gt, ot + 2, none⟩) m m) key) := by
                          rw [Hid, ← HKD.out]
                          exact (HKT.out.drop 2 (by omega)).take m m (by rw [List.length_drop]; omega) (Nat.le_refl _) (by omega)
                        have i1 : (0 : Int) ≤ 2 + (m : Int) := by omega
                        have i2 : max (2 + (m : Int)) 0 = 2 + (m : Int) := by omega
                        have i3 : (2 + (m : Int)).toNat = 2 + m := by omega
                        have i4 : ¬ 2 + m = 2 := by omega
                        have i5 : (2 : Int) ≤ 2 + (m : Int) := by omega
                        have i6 : 2 + m - 2 = m := by omega
                        go_region_law
                          (refine step_append_lies _ (by rfl) _ _ 24 (by rfl) w.heap.size 27 i7 (.slice none 0 0) 1 24 Try.underlying24 hi7 hz70 hz71 hz72 rfl (by decide) (.slice av j cv) j (F.map Kc.v) (by rfl) (by exact own_same HROW.out fun b _ hl => ((Below.refl _ wr).drew.alloc (Nat.le_refl _) _).block b hl) ⟨wr.heap.size, 0, none⟩ 1 1 [.slice (some ⟨gt, ot + 2, none⟩) m m] (by rfl) rfl (by exact one_src wr.drew 27 (.slice (some ⟨gt, ot + 2, none⟩) m m)) (by intro u hu; simp at hu; subst hu; rfl) (by decide) (by unfold maxLen; omega) (by omega) (by simp; omega) _ rfl ?_
                           intro g7 c7 w7 ho7 hg7 hat7 hlt7
                           have hk7 := Keep.grown (own_same HROW.out fun b _ hl => ((Below.refl _ wr).drew.alloc (Nat.le_refl _) (.cells #[.slice (some ⟨gt, ot + 2, none⟩) m m] 27)).block b hl) hg7 (by simp; omega)
                           have HP7 : Hid _ := HKR.out.step (e := ⟨.slice (some ⟨gt, ot + 2, none⟩) m m, key⟩) ((Below.refl _ wr).drew.alloc (Nat.le_refl _) _) hk7 (by rw [HFL.out]; exact ho7) HKV.out
                           have hbx := HKR.out.mid ((Below.refl _ wr).drew.alloc (Nat.le_refl _) _) hk7
                           have HD7 : Hid _ := HKR.out.down (i := 1) (vk' := .slice (some ⟨g7, 0, none⟩) (j + 1) c7) ((Below.refl _ wr).drew.alloc (Nat.le_refl _) _) hk7
                           obtain ⟨_, z1⟩ := hbx.cells
                           obtain ⟨_, v1⟩ := hbx.open
                           clear ho7 hat7 hlt7 hk7 hbx hg7)
                        all_goals
                          go_wp2_with fail
                          go_meet
                          exact ⟨⟨_, _, HP7.out, rfl⟩, HD7.out⟩
                    case rest =>
                      obtain ⟨⟨vk', e, hk', hek⟩, hdn⟩ := hcut
                      have HPN : Hid (KeysRead w W.heap.size wc vp vk' ps (F ++ [e])) := hk'
                      have HJ3 : Hid _ := HJ2.out e hek
                      have HLE : Hid ((F ++ [e]).length = j + 1) := by rw [Hid, List.length_append, HFL.out]; rfl
                      have HKC : Hid (KeyIn w.heap.size wc (.slice (some ⟨gt, ot, none⟩) t.length ct5) t) := HKT.out.below hdn
                      clear hk' hek hdn
                      have i1 : (0 : Int) ≤ 2 + (m : Int) := by omega
                      have i3 : (2 + (m : Int)).toNat = 2 + m := by omega
                      rcases Decidable.em (ct5 = 2 + m) with hc6 | hc6
                      · have HD : Hid (∀ n c', n = t.length - (2 + m) ∨ n = 0 → KeyIn w.heap.size wc (.slice (some ⟨gt, ot, none⟩) n c') t') := fun n c' hn => by
                          have e : n = 0 := by omega
                          rw [← HTD.out, List.drop_of_length_le (by omega), e]
                          exact KeyIn.void _ _
                        go_wp2
                        exact ⟨⟨j + 1, _, _, t', by omega, by go_num, HPN.out, HLE.out, HJ3.out, HD.out _ _ (by first | exact .inl rfl | exact .inr rfl), ht'l⟩, by simp [intOf]; omega⟩
                      · have HD : Hid (KeyIn w.heap.size wc (.slice (some ⟨gt, ot + (2 + m), none⟩) (t.length - (2 + m)) (ct5 - (2 + m))) t') := by
                          rw [Hid, ← HTD.out]; exact HKC.out.drop (2 + m) (by omega)
                        go_wp2
                        exact ⟨⟨j + 1, _, _, t', by omega, by go_num, HPN.out, HLE.out, HJ3.out, HD.out, ht'l⟩, by simp [intOf]; omega⟩
              · have hzl : ¬ (j : Int) < (n : Int) - 1 := by omega
                have HT : Hid (readK b = some (⟨ps, keysOf F⟩, t)) := by
                  rw [Hid, HREAD.out, HJ.out, show n - 1 - j = 0 by omega]
                  simp [readKs]
                obtain ⟨av, cv, ev⟩ : ∃ a c, vk = .slice a j c := by
                  obtain ⟨a, c, e⟩ := (own_cells hkr.row (by simp)).form
                  rw [List.length_map, hFl] at e
                  exact ⟨a, c, e⟩
                subst ev
                obtain ⟨ap, cp, ep⟩ : ∃ a c, vp = .slice a ps.length c := by
                  obtain ⟨a, c, e⟩ := (own_cells hkr.ints.own (by simp)).form
                  rw [List.length_map] at e
                  exact ⟨a, c, e⟩
                subst ep
                obtain ⟨y0, y1⟩ := hkr.box1.cells
                have HKA : Hid (KeysAt wr.heap.size wr (.slice av j cv) F) := ⟨own_cells hkr.row (by simp), by omega, fun e he => (hkr.keys e he).mono hkr.low.size⟩
                clear hJ hkt hFl hkr
                go_wp2_with fail
                refine (copies_any HKA.out).mono ?_
                rintro r w6 ⟨v6, G, rfl, hn6, hk6, hb6⟩
                have hkr := HKR.out
                have hwr := hkr.low.size
                obtain ⟨a6, c6, e6⟩ : ∃ a c, v6 = .slice a G.length c := by
                  obtain ⟨a, c, e⟩ := (own_cells hn6.own (by simp)).form
                  rw [List.length_map] at e
                  exact ⟨a, c, e⟩
                subst e6
                have b1 := hkr.box1.here hb6
                have b0 := hkr.box0.here hb6
                obtain ⟨y0', y1'⟩ := b1.cells
                obtain ⟨z0', z1'⟩ := b1.open
                have hK1 : Keep 26 w.heap.size w6 (w6.setCell ⟨W.heap.size, 1, none⟩ (.slice a6 G.length c6)) := keep_set b1.row (Nat.le_of_lt hkr.far) _
                obtain ⟨w7, hw7⟩ : ∃ w7, w7 = w6.setCell ⟨W.heap.size, 1, none⟩ (.slice a6 G.length c6) := ⟨_, rfl⟩
                have hw67 : w6.setCell ⟨W.heap.size, 1, none⟩ (.slice a6 G.length c6) = w7 := hw7.symm
                rw [hw67] at hK1
                have b1' : KBox w7 W.heap.size (.slice ap ps.length cp) (.slice a6 G.length c6) := by rw [hw7]; exact b1.set1 _
                have b0' : KBox w7 w.heap.size (.slice none 0 0) (.slice none 0 0) := by rw [hw7]; exact b0.other _ (by have := hkr.far; omega)
                have HB0 : Hid _ := b0'
                have HB1 : Hid _ := b1'
                have HNI : Hid (NewInts w.heap.size w7 (.slice ap ps.length cp) ps) := (hkr.ints.here hb6).keep hK1 (by decide)
                have HNK : Hid (NewKeys w.heap.size w7 (.slice a6 G.length c6) G) := (hn6.mono hwr).keep hK1 (by decide) (by decide)
                have HLO : Hid (Below w.heap.size w w7) := (hkr.low.trans (hb6.mono hwr)).trans hK1.low
                have HKG : Hid (keysOf G = keysOf F) := hk6
                clear hkr hn6 hk6 hb6 hK1 b1 b0 hw7 x0 x1 f0 f1 y0 y1
                go_upto_region 23 with fail
                try rw [hw67]
                clear hw67 y0' y1' z0' z1'
                obtain ⟨y0, y1⟩ := HB1.out.cells
                obtain ⟨x0, x1⟩ := HB0.out.cells
                obtain ⟨f0, f1⟩ := HB0.out.open
                have HLO2 : Hid (Keep 26 w.heap.size w7 ((w7.setCell ⟨w.heap.size, 0, none⟩ (.slice ap ps.length cp)).setCell ⟨w.heap.size, 1, none⟩ (.slice a6 G.length c6))) :=
                  (keep_set HB0.out.row (Nat.le_refl _) _).trans (keep_set (HB0.out.set0 _).row (Nat.le_refl _) _)
                have HTZ : Hid (((t.length : Int) == 0) = decide (t = [])) := by
                  rw [Hid]
                  cases t with
                  | nil => rfl
                  | cons x r => simp; omega
                go_wp2
                refine bodyPost_ret (ret_kids2 rfl rfl rfl (HB0.out.put _ _)) rfl ⟨_, _, ps, G, _, rfl, HNI.out.keep HLO2.out (by decide), HNK.out.keep HLO2.out (by decide) (by decide), HLO.out.trans HLO2.out.low, .inr ⟨t, ?_, HTZ.out⟩⟩
                rw [HT.out, HKG.out]
end Go.Proofs.Ytaehchijeinloaa
