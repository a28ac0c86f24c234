/- The document's read. -/
import Derived.Test.YtaehchijeinloaaRefCopies
import Derived.Deep.RegionHeldLaw
import Derived.Deep.RegionLaw
import Derived.BigQuiet
namespace Go.Proofs.Ytaehchijeinloaa
open Go.RowKit

/-- Bytes put behind bytes of new memory, as a step of a region that draws its order. -/
theorem step_append_key {w : World} {ops : Array Oper} {o : Oper} {a : Act} {K : Act → World → Prop} {Q : Exit → Act → World → Prop} {E : Prop} (hgd : o.guard = none) (s x : Operand)
    (ho : o.op = .call { callee := .builtin .append, args := #[s, x], argTypes := #[27, 27] }) (base : Nat)
    (v u : Value) (ks bs : Key) (hs : a.eval s = v) (hv : NewKey base w v ks) (hx : a.eval x = u) (hu : KeyAt w u bs)
    (hlen : ks.length + bs.length ≤ 140737488355328) (hbase : base ≤ w.heap.size)
    (h : ∀ v' w', NewKey base w' v' (ks ++ bs) → Keeps base w w' → K (a.put o.dst v') w') :
    if Region.wanted o (yielded ops a.tmps) = true then Oper.wp Try.prog o a w K Q else E := by
  have hw : Region.wanted o (yielded ops a.tmps) = true := by simp [Region.wanted, hgd]
  rw [if_pos hw]
  obtain ⟨i0, hi, hz0, hz1, hz2⟩ := info5'
  obtain ⟨⟨ao, c, rfl, hb, hc, hn⟩, hl⟩ := hu
  cases ao with
  | none =>
    have h0 : bs = [] := by
      cases bs with
      | nil => rfl
      | cons b r => obtain ⟨_, _, e, _⟩ := hb 0 b rfl; cases e
    subst h0
    obtain rfl := hn rfl
    have hrun := run_append_owned_none (P := Try.prog) (w := w) base 27 o.type 5 i0 1 Try.underlying27 hi _ _ _ hv.1
    have hx' : a.eval x = .slice none 0 0 := hx
    have := h v w (by rw [List.append_nil]; exact hv) (Keeps.refl _ _)
    unfold Oper.wp
    simp [execOp, ho, resolve, invoke, builtin, hs, hx', hrun, Result.andThen]
    exact this
  | some ad =>
    refine wp_append_own w s x 27 ho base 5 i0 (.int .u8 0) 1 1 Try.underlying27 hi hz0 hz1 hz2 rfl (by decide) _ _ _ hs hv.1 ad bs.length c (bs.map encB) hx (by simp) ?_ ?_ (by unfold maxLen; omega) (by omega) hbase ?_
    · intro j u hj
      rw [List.getElem?_map] at hj
      cases e : bs[j]? with
      | none => rw [e] at hj; cases hj
      | some b =>
        rw [e] at hj
        cases hj
        obtain ⟨g', off, e1, _, hc⟩ := hb j b e
        cases e1
        rw [add_at]
        exact hc
    · intro u hu
      obtain ⟨b, _, rfl⟩ := List.mem_map.1 hu
      rfl
    · intro v' w' hown hgr _
      refine h v' w' ⟨?_, by rw [List.length_append]; exact hlen⟩ (Keeps.grown hv hgr hbase)
      rw [List.length_append, List.map_append]
      exact hown

theorem num_at2 {b : Key} {A : Nat} {x y : UInt8} (hx : b[A]? = some x) (hy : b[A + 1]? = some y) : num ((b.drop A).take 2) = 256 * x.toNat + y.toNat := by
  have e : (b.drop A).take 2 = [x, y] := by
    apply List.ext_getElem?
    intro i
    match i with
    | 0 => simp [hx]
    | 1 => simp [hy]
    | i + 2 => rw [List.getElem?_take, if_neg (by omega)]; rfl
  rw [e]
  simp [num]
  omega
theorem num_at4 {b : Key} {A : Nat} {x y z u : UInt8} (hx : b[A]? = some x) (hy : b[A + 1]? = some y) (hz : b[A + 2]? = some z) (hu : b[A + 3]? = some u) : num ((b.drop A).take 4) = ((x.toNat * 256 + y.toNat) * 256 + z.toNat) * 256 + u.toNat := by
  have e : (b.drop A).take 4 = [x, y, z, u] := by
    apply List.ext_getElem?
    intro i
    match i with
    | 0 => simp [hx]
    | 1 => simp [hy]
    | 2 => simp [hz]
    | 3 => simp [hu]
    | i + 4 => rw [List.getElem?_take, if_neg (by omega)]; rfl
  rw [e]
  simp [num]
/-- A byte of a key, as a number. -/
theorem KeyIn.num {B g off n c i : Nat} {w : World} {ks : Key} (h : KeyIn B w (.slice (some ⟨g, off, none⟩) n c) ks) (hi : i < ks.length) : ∃ x : UInt8, ks[i]? = some x ∧ w.cell? ⟨g, off + i, none⟩ = some (.int .u8 (x.toNat : Int)) := by
  obtain ⟨⟨a', c', e, h1, _⟩, _⟩ := h
  cases e
  obtain ⟨g', off', e1, _, hc⟩ := h1 i _ (List.getElem?_eq_getElem hi)
  cases e1
  exact ⟨_, List.getElem?_eq_getElem hi, hc⟩

theorem readKs_short (n : Nat) (b : Key) (x : List Key × Key) (h : readKs n b = some x) : ∀ k ∈ x.1, k.length < 65536 := by
  induction n generalizing b x with
  | zero => cases h; intro k hk; simp at hk
  | succ n ih =>
    unfold readKs at h
    split at h
    · cases h
    · split at h
      · cases h
      · obtain ⟨y, hy, rfl⟩ := Option.map_eq_some_iff.1 h
        intro k hk
        rcases List.mem_cons.1 hk with rfl | hk
        · have h1 := num_bound (b.take 2)
          have h2 : 256 ^ (b.take 2).length ≤ 256 ^ 2 := Nat.pow_le_pow_right (by decide) (by rw [List.length_take]; omega)
          rw [List.length_take]
          omega
        · exact ih _ _ hy k hk
theorem bytesL_short (ks : List Key) (h : ∀ k ∈ ks, k.length < 65536) : bytesL ks ≤ 65538 * ks.length := by
  induction ks with
  | nil => simp [bytesL]
  | cons k ks ih =>
    rw [bytesL_cons, List.length_cons]
    have h1 := h k (by simp)
    have h2 := ih fun q hq => h q (by simp [hq])
    omega
theorem readK_short {b : Key} {d : Kd} {t : Key} (h : readK b = some (d, t)) : bytesK d ≤ 68719476736 := by
  have hb := readK_back _ _ _ h
  unfold readK at h
  split at h
  · cases h
  · split at h
    · cases h
    · obtain ⟨y, hy, e⟩ := Option.map_eq_some_iff.1 h
      have hs := readKs_short _ _ _ hy
      cases e
      have h1 := bytesL_short _ hs
      have h2 := hb.2.1
      have h3 := hb.2.2
      show 2 + 4 * _ + bytesL _ ≤ _
      simp only at h2 h3 ⊢
      omega

/-- While the document reads: the box of the result, the box in which it gathers. -/
structure KRead (w wx : World) (vp vk : Value) (ps : List Int) (F : List Kc) : Prop where
  box0 : KBox wx w.heap.size (.slice none 0 0) (.slice none 0 0)
  box1 : KBox wx (w.heap.size + 1) vp vk
  ints : NewInts w.heap.size wx vp ps
  keys : NewKeys w.heap.size wx vk F
  low : Below w.heap.size w wx
theorem KRead.drew {w wx : World} {vp vk : Value} {ps : List Int} {F : List Kc} (h : KRead w wx vp vk ps F) : KRead w wx.drew vp vk ps F :=
  ⟨h.box0.here (Below.refl _ _).drew, h.box1.here (Below.refl _ _).drew, h.ints.here (Below.refl _ _).drew, h.keys.here (Below.refl _ _).drew, h.low.drew⟩
theorem KRead.draws {w wx : World} {vp vk : Value} {ps : List Int} {F : List Kc} (h : KRead w wx vp vk ps F) (n : Nat) : KRead w (wx.drewN n) vp vk ps F :=
  ⟨h.box0.draws n, h.box1.draws n, h.ints.here (below_draws (Below.refl _ _) n), h.keys.here (below_draws (Below.refl _ _) n), below_draws h.low n⟩
theorem KRead.page {w wx w1 w2 : World} {vp vp' vk : Value} {ps : List Int} {F : List Kc} {p : Int} {n : Nat} (h : KRead w wx vp vk ps F) (hn : ps.length = n) (h1 : Below wx.heap.size wx w1) (ho : w2.ownsRow w.heap.size 3 1 vp' (n + 1) (ps.map encI ++ [encI p])) (hg : w1.grownBy w2 vp.ownBlock) :
    KBox w2 (w.heap.size + 1) vp vk ∧ Below w.heap.size w w2 ∧ KRead w (w2.setCell ⟨w.heap.size + 1, 0, none⟩ vp') vp' vk (ps ++ [p]) F := by
  have hs := h.low.size
  have hk : Keep 3 w.heap.size w1 w2 := Keep.grown (own_same h.ints.own fun b _ hl => h1.block b hl) hg (Nat.le_trans hs h1.size)
  have hK : Keep 3 w.heap.size wx w2 := (Keep.of h1 hs).trans hk
  have b1 := h.box1.keep hK (by decide)
  have hK2 : Keep 26 w.heap.size w2 (w2.setCell ⟨w.heap.size + 1, 0, none⟩ vp') := keep_set b1.row (Nat.le_succ _) _
  subst hn
  refine ⟨b1, h.low.trans hK.low, (h.box0.keep hK (by decide)).other _ (by omega), b1.set0 _, ⟨?_⟩, (h.keys.keep hK (by decide) (by decide)).keep hK2 (by decide) (by decide), (h.low.trans hK.low).trans hK2.low⟩
  have e : (ps ++ [p]).length = ps.length + 1 := by simp
  rw [e, List.map_append]
  exact own_same ho fun b hb _ => by
    obtain ⟨_, _, cur, hc⟩ := own_type ho b hb
    exact (hK2.typ _ _ _ _ (by decide) hc).trans hc.symm
theorem KRead.key {w wx w4 X w7 : World} {vp vk vk' v1 : Value} {ps : List Int} {F : List Kc} {key : Key} {n : Nat} (h : KRead w wx vp vk ps F) (hl : F.length = n) (h4 : Below wx.heap.size wx w4) (hn : NewKey wx.heap.size w4 v1 key) (hX : Below w4.heap.size w4 X)
    (ho : w7.ownsRow w.heap.size 27 1 vk' (n + 1) (F.map Kc.v ++ [v1])) (hg : X.grownBy w7 vk.ownBlock) :
    KBox w7 (w.heap.size + 1) vp vk ∧ KRead w (w7.setCell ⟨w.heap.size + 1, 1, none⟩ vk') vp vk' ps (F ++ [⟨v1, key⟩]) := by
  have hs := h.low.size
  have hY : Below wx.heap.size wx X := h4.trans (hX.mono h4.size)
  have hrow : X.ownsRow w.heap.size 27 1 vk F.length (F.map Kc.v) := own_same h.keys.own fun b _ hl => hY.block b hl
  have hkp : Keep 27 w.heap.size X w7 := Keep.grown hrow hg (Nat.le_trans hs hY.size)
  have hK : Keep 27 w.heap.size wx w7 := (Keep.of hY hs).trans hkp
  have b1 := h.box1.keep hK (by decide)
  have hK2 : Keep 26 w.heap.size w7 (w7.setCell ⟨w.heap.size + 1, 1, none⟩ vk') := keep_set b1.row (Nat.le_succ _) _
  subst hl
  refine ⟨b1, (h.box0.keep hK (by decide)).other _ (by omega), b1.set1 _, (h.ints.keep hK (by decide)).keep hK2 (by decide), NewKeys.keep ⟨?_, fun e he => ?_, ?_⟩ hK2 (by decide) (by decide), (h.low.trans hK.low).trans hK2.low⟩
  · rw [List.length_append, List.map_append]; exact ho
  · rcases List.mem_append.1 he with h' | h'
    · exact ((h.keys.keys e h').here hY).keep hkp (by decide)
    · simp at h'; subst h'
      exact ((hn.here hX).mono hs).keep hkp (by decide)
  · rw [blocks_append, List.nodup_append]
    refine ⟨h.keys.apart, ?_, fun a ha b hb e => ?_⟩
    · unfold blocks
      simp only [List.filterMap_cons, List.filterMap_nil]
      split <;> simp
    · obtain ⟨y, hy, hyb⟩ := mem_blocks ha
      have h3 := (own_type (h.keys.keys y hy).1 a hyb).1
      obtain ⟨y2, hy2, hyb2⟩ := mem_blocks hb
      simp at hy2; subst hy2
      have h4 := (own_type hn.1 b hyb2).2.1
      omega
/-- What the document's read says. -/
structure RReadPost (w : World) (b : Key) (r : Ending) (w' : World) : Prop where
  is : ∃ (vp vk : Value) (ps : List Int) (F : List Kc) (ok : Bool), r = .returned (.tuple #[.agg #[vp, vk], .bool ok]) ∧ NewInts w.heap.size w' vp ps ∧ NewKeys w.heap.size w' vk F ∧ Below w.heap.size w w' ∧
    ((ok = false ∧ ∀ d, readK b ≠ some (d, [])) ∨ (ok = true ∧ readK b = some (⟨ps, keysOf F⟩, [])))
theorem KRead.ret {w wx : World} {vp vk : Value} {ps : List Int} {F : List Kc} {b : Key} {ok : Bool} (h : KRead w wx vp vk ps F) (hr : (ok = false ∧ ∀ d, readK b ≠ some (d, [])) ∨ (ok = true ∧ readK b = some (⟨ps, keysOf F⟩, []))) :
    KBox ((wx.setCell ⟨w.heap.size, 0, none⟩ vp).setCell ⟨w.heap.size, 1, none⟩ vk) w.heap.size vp vk ∧ RReadPost w b (.returned (.tuple #[.agg #[vp, vk], .bool ok])) ((wx.setCell ⟨w.heap.size, 0, none⟩ vp).setCell ⟨w.heap.size, 1, none⟩ vk) := by
  have hk : Keep 26 w.heap.size wx ((wx.setCell ⟨w.heap.size, 0, none⟩ vp).setCell ⟨w.heap.size, 1, none⟩ vk) :=
    (keep_set h.box0.row (Nat.le_refl _) _).trans (keep_set (h.box0.set0 _).row (Nat.le_refl _) _)
  exact ⟨h.box0.put _ _, vp, vk, ps, F, ok, rfl, h.ints.keep hk (by decide), h.keys.keep hk (by decide) (by decide), h.low.trans hk.low, hr⟩
theorem newE_1 (w : World) : NewKey w.heap.size (w.drew.alloc (.cells #[] 5)) (.slice (some ⟨w.heap.size, 0, none⟩) 0 0) [] := newE w.drew
theorem newE_2 (w : World) : NewKey w.heap.size (w.drew.alloc (.cells #[] 5)).drew (.slice (some ⟨w.heap.size, 0, none⟩) 0 0) [] := (newE w.drew).here (Below.refl _ _).drew
theorem below_n1 (w : World) (o : Obj) : Below w.heap.size w (w.drew.alloc o) := (Below.refl _ _).drew.alloc (Nat.le_refl _) _
theorem below_n2 (w : World) (o : Obj) : Below w.heap.size w (w.drew.alloc o).drew := (below_n1 w o).drew

set_option maxHeartbeats 3200000 in
set_option maxRecDepth 100000 in
theorem refRead_any {w : World} {v : Value} {b : Key} (h : KeyAt w v b) :
    Calls Try.prog 42 #[v] w (RReadPost w b) := by
  obtain ⟨i0, hi, hz0, hz1, hz2⟩ := infoI'
  obtain ⟨i7, hi7, hz70, hz71, hz72⟩ := infoB'
  obtain ⟨a, c, rfl⟩ := h.in.form
  have hsh := h.short
  obtain ⟨W, hW⟩ : ∃ W, W = (w.alloc (.cells #[.slice none 0 0, .slice none 0 0] 26)).alloc (.cells #[.slice none 0 0, .slice none 0 0] 26) := ⟨_, rfl⟩
  have HR0 : Hid (KRead w W (.slice none 0 0) (.slice none 0 0) [] []) := by
    rw [hW]
    have h1 : KBox (w.alloc (.cells #[.slice none 0 0, .slice none 0 0] 26)) w.heap.size (.slice none 0 0) (.slice none 0 0) := KBox.new _ _ _
    have h2 := KBox.new (w.alloc (.cells #[.slice none 0 0, .slice none 0 0] 26)) (.slice none 0 0) (.slice none 0 0)
    exact ⟨h1.here (below_new _ _), by simpa using h2, NewInts.nil _ _, NewKeys.nil _ _, (below_new w _).alloc (by simp) _⟩
  have HK : Hid (KeyIn w.heap.size w (.slice a b.length c) b) := h.in
  clear h
  obtain ⟨x0, x1⟩ := HR0.out.box0.cells
  obtain ⟨f0, f1⟩ := HR0.out.box0.open
  obtain ⟨y0, y1⟩ := HR0.out.box1.cells
  by_cases h2 : b.length < 2
  · have h2z : (b.length : Int) < 2 := by omega
    have HR : Hid (∀ d, readK b ≠ some (d, [])) := fun d h => by unfold readK at h; rw [if_pos h2] at h; cases h
    go_enter Try.func42, Try.ntmps42
    go_upto_region 2 with fail
    rw [← hW]
    clear hW
    go_wp2
    have hr := HR0.out.ret (ok := false) (.inl ⟨rfl, HR.out⟩)
    exact bodyPost_ret (ret_kids2 (u := .bool false) rfl rfl rfl hr.1) rfl hr.2
  · have h2z : ¬ (b.length : Int) < 2 := by omega
    obtain ⟨_, hcap, ga, oa, ea⟩ := HK.out.lies (by omega)
    subst ea
    have HKW : Hid (∀ W', Below w.heap.size w W' → KeyIn w.heap.size W' (.slice (some ⟨ga, oa, none⟩) b.length c) b) := fun W' hb => HK.out.below hb
    obtain ⟨q0, hq0, c0⟩ := (HKW.out W HR0.out.low).num (i := 0) (by omega)
    obtain ⟨q1, hq1, c1⟩ := (HKW.out W HR0.out.low).num (i := 1) (by omega)
    rw [Nat.add_zero] at c0
    obtain ⟨n, hn⟩ : ∃ n, n = num (b.take 2) := ⟨_, rfl⟩
    have HN : Hid (n = num (b.take 2)) := hn
    have hnv : n = 256 * q0.toNat + q1.toNat := by
      have := num_at2 (A := 0) hq0 hq1
      rw [List.drop_zero] at this
      rw [hn, this]
    have hb0 := u8_lt q0
    have hb1 := u8_lt q1
    clear hn hq0 hq1
    generalize q0.toNat = m0 at c0 hnv hb0
    generalize q1.toNat = m1 at c1 hnv hb1
    go_enter Try.func42, Try.ntmps42
    go_upto_region 4 with fail
    rw [← hW]
    clear hW
    go_cut [5] (fun s5 wx => s5 = .int .i64 n ∧ KRead w wx (.slice none 0 0) (.slice none 0 0) [] [])
    case first =>
      go_quiet (fail)
      go_wp2_with fail
      go_meet
      exact ⟨by rw [hnv]; simp, HR0.out.draws _⟩
    case rest =>
    obtain ⟨rfl, hk0⟩ := hcut
    have HR1 : Hid (KRead w wc (.slice none 0 0) (.slice none 0 0) [] []) := hk0
    have hnb : n < 65536 := by omega
    clear hk0 HR0 c0 c1 hnv hb0 hb1 x0 x1 f0 f1 y0 y1
    obtain ⟨x0, x1⟩ := HR1.out.box0.cells
    obtain ⟨f0, f1⟩ := HR1.out.box0.open
    obtain ⟨y0, y1⟩ := HR1.out.box1.cells
    by_cases h4 : b.length < 2 + 4 * n
    case pos =>
      have h4z : (b.length : Int) < 2 + 4 * (n : Int) := by omega
      have HR : Hid (∀ d, readK b ≠ some (d, [])) := fun d h => by unfold readK at h; rw [if_neg h2, if_pos (by rw [← HN.out]; omega)] at h; cases h
      go_wp2
      have hr := HR1.out.ret (ok := false) (.inl ⟨rfl, HR.out⟩)
      exact bodyPost_ret (ret_kids2 (u := .bool false) rfl rfl rfl hr.1) rfl hr.2
    case neg =>
    have h4z : ¬ (b.length : Int) < 2 + 4 * (n : Int) := by omega
    have HREAD : Hid (readK b = (readKs (n - 1) (b.drop (2 + 4 * n))).map fun x => (⟨readP n (b.drop 2), x.1⟩, x.2)) := by
      unfold readK
      rw [Hid, if_neg h2, if_neg (by rw [← HN.out]; omega), ← HN.out, List.drop_drop]
    have hga : ga < w.heap.size := by
      obtain ⟨⟨_, _, e, h1, _⟩, _⟩ := HK.out
      cases e
      obtain ⟨_, _, e1, hg, _⟩ := h1 0 _ (List.getElem?_eq_getElem (show 0 < b.length by omega))
      cases e1
      exact hg
    have hgn1 : ¬ ga = w.heap.size + 1 := by omega
    have hgn2 : ¬ w.heap.size + 1 = ga := by omega
    clear h2
    go_wp2_with fail
    clear x0 x1 f0 f1 y0 y1
    go_loopw [6, 7] (fun s6 i wx => ∃ (k A : Nat) (vp : Value) (ps : List Int), k ≤ n ∧ i = .int .i64 k ∧ s6 = .int .i64 A ∧ A = 2 + 4 * k ∧ KRead w wx vp (.slice none 0 0) ps [] ∧ ps.length = k ∧ readP n (b.drop 2) = ps ++ readP (n - k) (b.drop A)) (fun _ i _ => n - (intOf i).toNat)
    case atStart => exact ⟨0, 2, _, [], by omega, rfl, rfl, rfl, HR1.out, rfl, rfl⟩
    case round =>
      obtain ⟨k, A, vp, ps, hk, rfl, rfl, hA, hkr, hpl, hrd⟩ := hrel
      have HKR : Hid (KRead w wr vp (.slice none 0 0) ps []) := hkr
      have HRD : Hid (readP n (b.drop 2) = ps ++ readP (n - k) (b.drop A)) := hrd
      have HPL : Hid (ps.length = k) := hpl
      by_cases hlt : k < n
      · have hzl : (k : Int) < (n : Int) := by omega
        obtain ⟨A1, hA1⟩ : ∃ A1, A1 = A + 1 := ⟨_, rfl⟩
        obtain ⟨A2, hA2⟩ : ∃ A2, A2 = A + 2 := ⟨_, rfl⟩
        obtain ⟨A3, hA3⟩ : ∃ A3, A3 = A + 3 := ⟨_, rfl⟩
        obtain ⟨q0, hq0, -⟩ := (HKW.out wr hkr.low).num (i := A) (by omega)
        obtain ⟨q1, hq1, -⟩ := (HKW.out wr hkr.low).num (i := A1) (by omega)
        obtain ⟨q2, hq2, -⟩ := (HKW.out wr hkr.low).num (i := A2) (by omega)
        obtain ⟨q3, hq3, -⟩ := (HKW.out wr hkr.low).num (i := A3) (by omega)
        have hnum := num_at4 hq0 (by rw [← hA1]; exact hq1) (by rw [← hA2]; exact hq2) (by rw [← hA3]; exact hq3)
        have HC4 : Hid (∀ W', Below w.heap.size w W' → W'.cell? ⟨ga, oa + A, none⟩ = some (.int .u8 (q0.toNat : Int)) ∧ W'.cell? ⟨ga, oa + A1, none⟩ = some (.int .u8 (q1.toNat : Int)) ∧ W'.cell? ⟨ga, oa + A2, none⟩ = some (.int .u8 (q2.toNat : Int)) ∧ W'.cell? ⟨ga, oa + A3, none⟩ = some (.int .u8 (q3.toNat : Int))) := fun W' hb => by
          obtain ⟨p0, e0, d0⟩ := (HKW.out W' hb).num (i := A) (by omega)
          obtain ⟨p1, e1, d1⟩ := (HKW.out W' hb).num (i := A1) (by omega)
          obtain ⟨p2, e2, d2⟩ := (HKW.out W' hb).num (i := A2) (by omega)
          obtain ⟨p3, e3, d3⟩ := (HKW.out W' hb).num (i := A3) (by omega)
          rw [hq0] at e0
          rw [hq1] at e1
          rw [hq2] at e2
          rw [hq3] at e3
          cases e0
          cases e1
          cases e2
          cases e3
          exact ⟨d0, d1, d2, d3⟩
        have hb0 := u8_lt q0
        have hb1 := u8_lt q1
        have hb2 := u8_lt q2
        have hb3 := u8_lt q3
        clear hq0 hq1 hq2 hq3
        generalize q0.toNat = m0 at HC4 hnum hb0
        generalize q1.toNat = m1 at HC4 hnum hb1
        generalize q2.toNat = m2 at HC4 hnum hb2
        generalize q3.toNat = m3 at HC4 hnum hb3
        have HST : Hid (readP n (b.drop 2) = (ps ++ [((((m0 : Int) * 256 + m1) * 256 + m2) * 256 + m3)]) ++ readP (n - (k + 1)) (b.drop (A + 4))) := by
          rw [Hid, HRD.out, show n - k = (n - (k + 1)) + 1 by omega, List.append_assoc]
          congr 1
          show (num ((b.drop A).take 4) : Int) :: readP _ ((b.drop A).drop 4) = _
          rw [hnum, List.drop_drop]
          simp
        have i1 : (A : Int) + 1 = (A1 : Int) := by omega
        have i2 : (A : Int) + 2 = (A2 : Int) := by omega
        have i3 : (A : Int) + 3 = (A3 : Int) := by omega
        have t0 : IntKind.i64.wrap ((m0 : Int)) = (m0 : Int) := wrapk_of _ (by omega) (by omega)
        have t1 : IntKind.i64.wrap ((m1 : Int)) = (m1 : Int) := wrapk_of _ (by omega) (by omega)
        have t2 : IntKind.i64.wrap ((m2 : Int)) = (m2 : Int) := wrapk_of _ (by omega) (by omega)
        have t3 : IntKind.i64.wrap ((m3 : Int)) = (m3 : Int) := wrapk_of _ (by omega) (by omega)
        have t4 : IntKind.i64.wrap ((m0 : Int) * 256) = (m0 : Int) * 256 := wrapk_of _ (by omega) (by omega)
        have t5 : IntKind.i64.wrap ((m0 : Int) * 256 + m1) = (m0 : Int) * 256 + m1 := wrapk_of _ (by omega) (by omega)
        have t6 : IntKind.i64.wrap (((m0 : Int) * 256 + m1) * 256) = ((m0 : Int) * 256 + m1) * 256 := wrapk_of _ (by omega) (by omega)
        have t7 : IntKind.i64.wrap (((m0 : Int) * 256 + m1) * 256 + m2) = ((m0 : Int) * 256 + m1) * 256 + m2 := wrapk_of _ (by omega) (by omega)
        have t8 : IntKind.i64.wrap ((((m0 : Int) * 256 + m1) * 256 + m2) * 256) = (((m0 : Int) * 256 + m1) * 256 + m2) * 256 := wrapk_of _ (by omega) (by omega)
        have t9 : IntKind.i64.wrap ((((m0 : Int) * 256 + m1) * 256 + m2) * 256 + m3) = (((m0 : Int) * 256 + m1) * 256 + m2) * 256 + m3 := wrapk_of _ (by omega) (by omega)
        have w1 : IntKind.i64.wrap (A1 : Int) = (A1 : Int) := wrapk_of _ (by omega) (by omega)
        have w2 : IntKind.i64.wrap (A2 : Int) = (A2 : Int) := wrapk_of _ (by omega) (by omega)
        have w3 : IntKind.i64.wrap (A3 : Int) = (A3 : Int) := wrapk_of _ (by omega) (by omega)
        have j0 : A < b.length := by omega
        have j1 : A1 < b.length := by omega
        have j2 : A2 < b.length := by omega
        have j3 : A3 < b.length := by omega
        have j4 : (A3 : Int) < (b.length : Int) := by omega
        have j5 : (A2 : Int) < (b.length : Int) := by omega
        have j6 : (A1 : Int) < (b.length : Int) := by omega
        have j7 : (A : Int) < (b.length : Int) := by omega
        obtain ⟨c0, c1, c2, c3⟩ := HC4.out wr hkr.low
        obtain ⟨av, cv, ev⟩ : ∃ a c, vp = .slice a k c := by
          obtain ⟨a, c, e⟩ := (own_cells hkr.ints.own (by simp)).form
          rw [List.length_map, hpl] at e
          exact ⟨a, c, e⟩
        subst ev
        obtain ⟨y0, _⟩ := hkr.box1.cells
        have HOWN : Hid (∀ X, Below wr.heap.size wr X → X.ownsRow w.heap.size 3 1 (.slice av k cv) k (ps.map encI)) := fun X hX => by
          have h9 := own_same hkr.ints.own fun b _ hl => hX.block b hl
          rw [hpl] at h9
          exact h9
        have HLOW : Hid (w.heap.size ≤ wr.heap.size) := hkr.low.size
        have y5 : ∀ o, (wr.alloc o).cell? ⟨w.heap.size + 1, 0, none⟩ = some (.slice av k cv) := fun o => ((hkr.box1.here (below_new wr _)).cells).1
        have HA : Hid (A = 2 + 4 * k) := hA
        clear hrd hnum hkr hpl hA1 hA2 hA3 hA
        go_wp2_with fail
        go_cut [] (fun wx => ∃ vp', KRead w wx vp' (.slice none 0 0) (ps ++ [((((m0 : Int) * 256 + m1) * 256 + m2) * 256 + m3)]) [])
        case first =>
          refine wp_region_held_drew (S := (fun W' => W'.cell? ⟨ga, oa + A, none⟩ = some (.int .u8 (m0 : Int)) ∧ W'.cell? ⟨ga, oa + A1, none⟩ = some (.int .u8 (m1 : Int)) ∧ W'.cell? ⟨ga, oa + A2, none⟩ = some (.int .u8 (m2 : Int)) ∧ W'.cell? ⟨ga, oa + A3, none⟩ = some (.int .u8 (m3 : Int)))) (by kernel_rfl) ⟨c0, c1, c2, c3⟩ (fun hHeld => ?_)
          refine wpAnyH_take (i := 0) (v := ?_) rfl (by kernel_rfl) (by kernel_rfl) (by kernel_rfl) (fun _ _ _ h => h) (Or.inl ⟨by rfl, ?_⟩) (by assumption) ?_
          rotate_left
          · intro w0 hSw
            try dsimp only at hSw
            go_simp
            with_reducible rfl
          try simp only [Act.put]
          refine wpAnyH_take (i := 2) (v := ?_) rfl (by kernel_rfl) (by kernel_rfl) (by kernel_rfl) (fun _ _ _ h => h) (Or.inl ⟨by rfl, ?_⟩) (by assumption) ?_
          rotate_left
          · intro w0 hSw
            try dsimp only at hSw
            go_simp
            with_reducible rfl
          try simp only [Act.put]
          refine wpAnyH_take (i := 3) (v := ?_) rfl (by kernel_rfl) (by kernel_rfl) (by kernel_rfl) (fun _ _ _ h => h) (Or.inl ⟨by rfl, ?_⟩) (by assumption) ?_
          rotate_left
          · intro w0 hSw
            try dsimp only at hSw
            go_simp
            with_reducible rfl
          try simp only [Act.put]
          refine wpAnyH_take (i := 4) (v := ?_) rfl (by kernel_rfl) (by kernel_rfl) (by kernel_rfl) (fun _ _ _ h => h) (Or.inl ⟨by rfl, ?_⟩) (by assumption) ?_
          rotate_left
          · intro w0 hSw
            try dsimp only at hSw
            go_simp
            with_reducible rfl
          try simp only [Act.put]
          refine wpAnyH_take (i := 5) (v := ?_) rfl (by kernel_rfl) (by kernel_rfl) (by kernel_rfl) (fun _ _ _ h => h) (Or.inl ⟨by rfl, ?_⟩) (by assumption) ?_
          rotate_left
          · intro w0 hSw
            try dsimp only at hSw
            go_simp
            with_reducible rfl
          try simp only [Act.put]
          refine wpAnyH_take (i := 6) (v := ?_) rfl (by kernel_rfl) (by kernel_rfl) (by kernel_rfl) (fun _ _ _ h => h) (Or.inl ⟨by rfl, ?_⟩) (by assumption) ?_
          rotate_left
          · intro w0 hSw
            try dsimp only at hSw
            go_simp
            with_reducible rfl
          try simp only [Act.put]
          refine wpAnyH_take (i := 7) (v := ?_) rfl (by kernel_rfl) (by kernel_rfl) (by kernel_rfl) (fun _ _ _ h => h) (Or.inl ⟨by rfl, ?_⟩) (by assumption) ?_
          rotate_left
          · intro w0 hSw
            try dsimp only at hSw
            go_simp
            with_reducible rfl
          try simp only [Act.put]
          refine wpAnyH_take (i := 8) (v := ?_) rfl (by kernel_rfl) (by kernel_rfl) (by kernel_rfl) (fun _ _ _ h => h) (Or.inl ⟨by rfl, ?_⟩) (by assumption) ?_
          rotate_left
          · intro w0 hSw
            try dsimp only at hSw
            go_simp
            with_reducible rfl
          try simp only [Act.put]
          refine wpAnyH_take (i := 9) (v := ?_) rfl (by kernel_rfl) (by kernel_rfl) (by kernel_rfl) (fun _ _ _ h => h) (Or.inl ⟨by rfl, ?_⟩) (by assumption) ?_
          rotate_left
          · intro w0 hSw
            try dsimp only at hSw
            go_simp
            with_reducible rfl
          try simp only [Act.put]
          refine wpAnyH_take (i := 10) (v := ?_) rfl (by kernel_rfl) (by kernel_rfl) (by kernel_rfl) (fun _ _ _ h => h) (Or.inl ⟨by rfl, ?_⟩) (by assumption) ?_
          rotate_left
          · intro w0 hSw
            try dsimp only at hSw
            go_simp
            with_reducible rfl
          try simp only [Act.put]
          refine wpAnyH_take (i := 11) (v := ?_) rfl (by kernel_rfl) (by kernel_rfl) (by kernel_rfl) (fun _ _ _ h => h) (Or.inl ⟨by rfl, ?_⟩) (by assumption) ?_
          rotate_left
          · intro w0 hSw
            try dsimp only at hSw
            go_simp
            with_reducible rfl
          try simp only [Act.put]
          refine wpAnyH_take (i := 12) (v := ?_) rfl (by kernel_rfl) (by kernel_rfl) (by kernel_rfl) (fun _ _ _ h => h) (Or.inl ⟨by rfl, ?_⟩) (by assumption) ?_
          rotate_left
          · intro w0 hSw
            try dsimp only at hSw
            go_simp
            with_reducible rfl
          try simp only [Act.put]
          refine wpAnyH_take (i := 13) (v := ?_) rfl (by kernel_rfl) (by kernel_rfl) (by kernel_rfl) (fun _ _ _ h => h) (Or.inl ⟨by rfl, ?_⟩) (by assumption) ?_
          rotate_left
          · intro w0 hSw
            try dsimp only at hSw
            go_simp
            with_reducible rfl
          try simp only [Act.put]
          refine wpAnyH_take (i := 14) (v := ?_) rfl (by kernel_rfl) (by kernel_rfl) (by kernel_rfl) (fun _ _ _ h => h) (Or.inl ⟨by rfl, ?_⟩) (by assumption) ?_
          rotate_left
          · intro w0 hSw
            try dsimp only at hSw
            go_simp
            with_reducible rfl
          try simp only [Act.put]
          refine wpAnyH_take (i := 15) (v := ?_) rfl (by kernel_rfl) (by kernel_rfl) (by kernel_rfl) (fun _ _ _ h => h) (Or.inl ⟨by rfl, ?_⟩) (by assumption) ?_
          rotate_left
          · intro w0 hSw
            try dsimp only at hSw
            go_simp
            with_reducible rfl
          try simp only [Act.put]
          refine wpAnyH_take (i := 16) (v := ?_) rfl (by kernel_rfl) (by kernel_rfl) (by kernel_rfl) (fun _ _ _ h => h) (Or.inl ⟨by rfl, ?_⟩) (by assumption) ?_
          rotate_left
          · intro w0 hSw
            try dsimp only at hSw
            go_simp
            with_reducible rfl
          try simp only [Act.put]
          refine wpAnyH_take (i := 17) (v := ?_) rfl (by kernel_rfl) (by kernel_rfl) (by kernel_rfl) (fun _ _ _ h => h) (Or.inl ⟨by rfl, ?_⟩) (by assumption) ?_
          rotate_left
          · intro w0 hSw
            try dsimp only at hSw
            go_simp
            with_reducible rfl
          try simp only [Act.put]
          refine wpAnyH_take (i := 18) (v := ?_) rfl (by kernel_rfl) (by kernel_rfl) (by kernel_rfl) (fun _ _ _ h => h) (Or.inl ⟨by rfl, ?_⟩) (by assumption) ?_
          rotate_left
          · intro w0 hSw
            try dsimp only at hSw
            go_simp
            with_reducible rfl
          try simp only [Act.put]
          refine wpAnyH_take (i := 19) (v := ?_) rfl (by kernel_rfl) (by kernel_rfl) (by kernel_rfl) (fun _ _ _ h => h) (Or.inl ⟨by rfl, ?_⟩) (by assumption) ?_
          rotate_left
          · intro w0 hSw
            try dsimp only at hSw
            go_simp
            with_reducible rfl
          try simp only [Act.put]
          refine wpAnyH_take (i := 20) (v := ?_) rfl (by kernel_rfl) (by kernel_rfl) (by kernel_rfl) (fun _ _ _ h => h) (Or.inl ⟨by rfl, ?_⟩) (by assumption) ?_
          rotate_left
          · intro w0 hSw
            try dsimp only at hSw
            go_simp
            with_reducible rfl
          try simp only [Act.put]
          refine wpAnyH_take (i := 21) (v := ?_) rfl (by kernel_rfl) (by kernel_rfl) (by kernel_rfl) (fun _ _ _ h => h) (Or.inl ⟨by rfl, ?_⟩) (by assumption) ?_
          rotate_left
          · intro w0 hSw
            try dsimp only at hSw
            go_simp
            with_reducible rfl
          try simp only [Act.put]
          refine wpAnyH_take (i := 22) (v := ?_) rfl (by kernel_rfl) (by kernel_rfl) (by kernel_rfl) (fun _ _ _ h => h) (Or.inl ⟨by rfl, ?_⟩) (by assumption) ?_
          rotate_left
          · intro w0 hSw
            try dsimp only at hSw
            go_simp
            with_reducible rfl
          try simp only [Act.put]
          refine wpAnyH_take (i := 23) (v := ?_) rfl (by kernel_rfl) (by kernel_rfl) (by kernel_rfl) (fun _ _ _ h => h) (Or.inl ⟨by rfl, ?_⟩) (by assumption) ?_
          rotate_left
          · intro w0 hSw
            try dsimp only at hSw
            go_simp
            with_reducible rfl
          try simp only [Act.put]
          refine wpAnyH_take (i := 24) (v := ?_) rfl (by kernel_rfl) (by kernel_rfl) (by kernel_rfl) (fun _ _ _ h => h) (Or.inl ⟨by rfl, ?_⟩) (by assumption) ?_
          rotate_left
          · intro w0 hSw
            try dsimp only at hSw
            go_simp
            with_reducible rfl
          try simp only [Act.put]
          refine wpAnyH_take (i := 25) (v := ?_) rfl (by kernel_rfl) (by kernel_rfl) (by kernel_rfl) (fun _ _ _ h => h) (Or.inl ⟨by rfl, ?_⟩) (by assumption) ?_
          rotate_left
          · intro w0 hSw
            try dsimp only at hSw
            go_simp
            with_reducible rfl
          try simp only [Act.put]
          refine wpAnyH_take (i := 26) (v := ?_) rfl (by kernel_rfl) (by kernel_rfl) (by kernel_rfl) (fun _ _ _ h => h) (Or.inl ⟨by rfl, ?_⟩) (by assumption) ?_
          rotate_left
          · intro w0 hSw
            try dsimp only at hSw
            go_simp
            with_reducible rfl
          try simp only [Act.put]
          refine wpAnyH_take (i := 27) (v := ?_) rfl (by kernel_rfl) (by kernel_rfl) (by kernel_rfl) (fun _ _ _ h => h) (Or.inl ⟨by rfl, ?_⟩) (by assumption) ?_
          rotate_left
          · intro w0 hSw
            try dsimp only at hSw
            go_simp
            with_reducible rfl
          try simp only [Act.put]
          refine wpAnyH_take (i := 28) (v := ?_) rfl (by kernel_rfl) (by kernel_rfl) (by kernel_rfl) (fun _ _ _ h => h) (Or.inl ⟨by rfl, ?_⟩) (by assumption) ?_
          rotate_left
          · intro w0 hSw
            try dsimp only at hSw
            go_simp
            with_reducible rfl
          try simp only [Act.put]
          refine wpAnyH_take (i := 29) (v := ?_) rfl (by kernel_rfl) (by kernel_rfl) (by kernel_rfl) (fun _ _ _ h => h) (Or.inl ⟨by rfl, ?_⟩) (by assumption) ?_
          rotate_left
          · intro w0 hSw
            try dsimp only at hSw
            go_simp
            with_reducible rfl
          try simp only [Act.put]
          refine wpAnyH_take (i := 30) (v := ?_) rfl (by kernel_rfl) (by kernel_rfl) (by kernel_rfl) (fun _ _ _ h => h) (Or.inl ⟨by rfl, ?_⟩) (by assumption) ?_
          rotate_left
          · intro w0 hSw
            try dsimp only at hSw
            go_simp
            with_reducible rfl
          try simp only [Act.put]
          refine wpAnyH_ready (rs := [1, 31]) (by kernel_rfl) (by simp) ?_
          refine AllReadyH.cons rfl (fun K hK => ?_) (AllReadyH.cons rfl (fun K hK => ?_) AllReadyH.nil)
          · go_simp
            refine hK.out _ _ ?_ (fun hHeld => ?_)
            · first | exact hHeld | ((refine ⟨?_, ?_, ?_, ?_⟩) <;> with_reducible assumption) | (go_keep; done)
            clear hK K
            refine wpAnyH_ready (rs := [31]) (by kernel_rfl) (by simp) ?_
            refine AllReadyH.cons rfl (fun K hK => ?_) AllReadyH.nil
            go_simp
            refine hK.out _ _ ?_ (fun hHeld => ?_)
            · first | exact hHeld | ((refine ⟨?_, ?_, ?_, ?_⟩) <;> with_reducible assumption) | (go_keep; done)
            clear hK K
            refine wpAnyH_ready (rs := [32]) (by kernel_rfl) (by simp) ?_
            refine AllReadyH.cons rfl (fun K hK => ?_) AllReadyH.nil
            refine step_append_lies _ (by rfl) _ _ 23 (by rfl) w.heap.size 3 i0 (.int .i64 0) 1 8 Try.underlying23 hi hz0 hz1 hz2 rfl (by decide) (.slice av k cv) k (ps.map encI) (by rfl) (HOWN.out _ (below_n1 wr _)) ⟨wr.heap.size, 0, none⟩ 1 1 [encI ((((m0 : Int) * 256 + m1) * 256 + m2) * 256 + m3)] (by rfl) rfl (one_src wr.drew 3 (encI ((((m0 : Int) * 256 + m1) * 256 + m2) * 256 + m3))) (by intro u hu; simp at hu; subst hu; rfl) (by decide) (by unfold maxLen; omega) (by omega) (by have := HLOW.out; simp; omega) _ rfl ?_
            intro g7 c7 w7 ho7 hg7 _ _
            have hp7 := HKR.out.page HPL.out (below_n1 wr _) ho7 hg7
            have HP7 : Hid _ := hp7.2.2
            obtain ⟨s0, s1, s2, s3⟩ := HC4.out w7 hp7.2.1
            obtain ⟨z0, _⟩ := hp7.1.cells
            obtain ⟨v0, _⟩ := hp7.1.open
            clear ho7 hg7 hp7
            try simp only [Act.put]
            refine hK.out _ _ ?_ (fun hHeld => ?_)
            · first | exact hHeld | ((refine ⟨?_, ?_, ?_, ?_⟩) <;> with_reducible assumption) | (go_keep; done)
            clear hK K
            refine wpAnyH_take (i := 33) (v := ?_) rfl (by kernel_rfl) (by kernel_rfl) (by kernel_rfl) (fun _ _ _ h => h) (Or.inl ⟨by rfl, ?_⟩) (by assumption) ?_
            rotate_left
            · intro w0 hSw
              try dsimp only at hSw
              go_simp
              with_reducible rfl
            try simp only [Act.put]
            refine wpAnyH_ready (rs := [34]) (by kernel_rfl) (by simp) ?_
            refine AllReadyH.cons rfl (fun K hK => ?_) AllReadyH.nil
            go_simp
            refine hK.out _ _ ?_ (fun hHeld => ?_)
            · first | exact hHeld | ((refine ⟨?_, ?_, ?_, ?_⟩) <;> with_reducible assumption) | (go_keep; done)
            clear hK K
            refine wpAnyH_done (by kernel_rfl) ?_ _
            go_wp2_with fail
            go_meet
            exact ⟨_, HP7.out⟩
          · go_simp
            refine hK.out _ _ ?_ (fun hHeld => ?_)
            · first | exact hHeld | ((refine ⟨?_, ?_, ?_, ?_⟩) <;> with_reducible assumption) | (go_keep; done)
            clear hK K
            refine wpAnyH_ready (rs := [1]) (by kernel_rfl) (by simp) ?_
            refine AllReadyH.cons rfl (fun K hK => ?_) AllReadyH.nil
            go_simp
            refine hK.out _ _ ?_ (fun hHeld => ?_)
            · first | exact hHeld | ((refine ⟨?_, ?_, ?_, ?_⟩) <;> with_reducible assumption) | (go_keep; done)
            clear hK K
            refine wpAnyH_ready (rs := [32]) (by kernel_rfl) (by simp) ?_
            refine AllReadyH.cons rfl (fun K hK => ?_) AllReadyH.nil
            refine step_append_lies _ (by rfl) _ _ 23 (by rfl) w.heap.size 3 i0 (.int .i64 0) 1 8 Try.underlying23 hi hz0 hz1 hz2 rfl (by decide) (.slice av k cv) k (ps.map encI) (by rfl) (HOWN.out _ (below_n1 wr _)) ⟨wr.heap.size, 0, none⟩ 1 1 [encI ((((m0 : Int) * 256 + m1) * 256 + m2) * 256 + m3)] (by rfl) rfl (one_src wr.drew 3 (encI ((((m0 : Int) * 256 + m1) * 256 + m2) * 256 + m3))) (by intro u hu; simp at hu; subst hu; rfl) (by decide) (by unfold maxLen; omega) (by omega) (by have := HLOW.out; simp; omega) _ rfl ?_
            intro g7 c7 w7 ho7 hg7 _ _
            have hp7 := HKR.out.page HPL.out (below_n1 wr _) ho7 hg7
            have HP7 : Hid _ := hp7.2.2
            obtain ⟨s0, s1, s2, s3⟩ := HC4.out w7 hp7.2.1
            obtain ⟨z0, _⟩ := hp7.1.cells
            obtain ⟨v0, _⟩ := hp7.1.open
            clear ho7 hg7 hp7
            try simp only [Act.put]
            refine hK.out _ _ ?_ (fun hHeld => ?_)
            · first | exact hHeld | ((refine ⟨?_, ?_, ?_, ?_⟩) <;> with_reducible assumption) | (go_keep; done)
            clear hK K
            refine wpAnyH_take (i := 33) (v := ?_) rfl (by kernel_rfl) (by kernel_rfl) (by kernel_rfl) (fun _ _ _ h => h) (Or.inl ⟨by rfl, ?_⟩) (by assumption) ?_
            rotate_left
            · intro w0 hSw
              try dsimp only at hSw
              go_simp
              with_reducible rfl
            try simp only [Act.put]
            refine wpAnyH_ready (rs := [34]) (by kernel_rfl) (by simp) ?_
            refine AllReadyH.cons rfl (fun K hK => ?_) AllReadyH.nil
            go_simp
            refine hK.out _ _ ?_ (fun hHeld => ?_)
            · first | exact hHeld | ((refine ⟨?_, ?_, ?_, ?_⟩) <;> with_reducible assumption) | (go_keep; done)
            clear hK K
            refine wpAnyH_done (by kernel_rfl) ?_ _
            go_wp2_with fail
            go_meet
            exact ⟨_, HP7.out⟩
        case rest =>
          obtain ⟨vp', hp'⟩ := hcut
          have HKN : Hid (KRead w wc vp' (.slice none 0 0) _ []) := hp'
          clear hp' c0 c1 c2 c3 y0 y5
          have HPN : Hid ((ps ++ [((((m0 : Int) * 256 + m1) * 256 + m2) * 256 + m3)]).length = k + 1) := by rw [Hid, List.length_append, HPL.out]; rfl
          go_wp2
          exact ⟨⟨k + 1, A + 4, vp', _, by omega, by go_num, by go_num, by have := HA.out; omega, HKN.out, HPN.out, HST.out⟩, by simp [intOf]; omega⟩
      · have hzl : ¬ (k : Int) < (n : Int) := by omega
        have hkn : k = n := by omega
        have HPS : Hid (ps = readP n (b.drop 2)) := by
          have h9 := HRD.out
          rw [hkn, Nat.sub_self] at h9
          rw [Hid]
          simpa [readP] using h9.symm
        have HREAD2 : Hid (readK b = (readKs (n - 1) (b.drop A)).map fun x => (⟨ps, x.1⟩, x.2)) := by
          rw [Hid, HREAD.out, HPS.out, hA, hkn]
        obtain ⟨T, hT⟩ : ∃ T, T = readKs (n - 1) (b.drop A) := ⟨_, rfl⟩
        have HT : Hid (T = readKs (n - 1) (b.drop A)) := hT
        rw [← hT] at HREAD2
        have hAb : A ≤ b.length := by omega
        obtain ⟨wA, hwA⟩ : ∃ wA, wA = wr := ⟨_, rfl⟩
        rw [← hwA] at HKR
        rw [← hwA]
        clear hkr hrd hpl hwA HREAD HRD HPS hT hkn hk h4z h4 hA
        go_wp2_with fail
        go_loopw [6, 8] (fun s6 i wx => ∃ (I j A : Nat) (vk : Value) (F : List Kc), i = .int .i64 I ∧ s6 = .int .i64 A ∧ I = j + 1 ∧ KRead w wx vp vk ps F ∧ F.length = j ∧ A ≤ b.length ∧ T = (readKs (n - 1 - j) (b.drop A)).map fun x => (keysOf F ++ x.1, x.2)) (fun _ i _ => n - (intOf i).toNat)
        case atStart => exact ⟨1, 0, A, _, [], rfl, rfl, rfl, HKR.out, rfl, hAb, by rw [HT.out]; simp [keysOf]⟩
        case round =>
          clear hAb HT
          obtain ⟨I, j, A, vk, F, rfl, rfl, hI, hkr, hFl, hAb, hJ⟩ := hrel
          have HKR2 : Hid (KRead w wr vp vk ps F) := hkr
          have HFL : Hid (F.length = j) := hFl
          have HJ : Hid (T = (readKs (n - 1 - j) (b.drop A)).map fun x => (keysOf F ++ x.1, x.2)) := hJ
          obtain ⟨x0, x1⟩ := hkr.box0.cells
          obtain ⟨f0, f1⟩ := hkr.box0.open
          obtain ⟨y0, y1⟩ := hkr.box1.cells
          obtain ⟨ap, cp, ep⟩ : ∃ a c, vp = .slice a ps.length c := by
            obtain ⟨a, c, e⟩ := (own_cells hkr.ints.own (by simp)).form
            rw [List.length_map] at e
            exact ⟨a, c, e⟩
          obtain ⟨av, cv, ev⟩ : ∃ a c, vk = .slice a j c := by
            obtain ⟨a, c, e⟩ := (own_cells hkr.keys.own (by simp)).form
            rw [List.length_map, hFl] at e
            exact ⟨a, c, e⟩
          subst ev
          subst ep
          by_cases hlt : I < n
          · have hzl : (I : Int) < (n : Int) := by omega
            have hS1 : n - 1 - j = (n - 1 - (j + 1)) + 1 := by omega
            by_cases ht2 : b.length < A + 2
            · have ht2z : (b.length : Int) < (A : Int) + 2 := by omega
              have HR : Hid (∀ d, readK b ≠ some (d, [])) := fun d h => by
                rw [HREAD2.out, HJ.out, hS1] at h
                unfold readKs at h
                rw [if_pos (by rw [List.length_drop]; omega)] at h
                cases h
              clear hkr hJ hFl hS1
              go_wp2
              have hr := HKR2.out.ret (ok := false) (.inl ⟨rfl, HR.out⟩)
              exact bodyPost_ret (ret_kids2 (u := .bool false) rfl rfl rfl hr.1) rfl hr.2
            · have ht2z : ¬ (b.length : Int) < (A : Int) + 2 := by omega
              obtain ⟨A1, hA1⟩ : ∃ A1, A1 = A + 1 := ⟨_, rfl⟩
              obtain ⟨q0, hq0, c0⟩ := (HKW.out wr hkr.low).num (i := A) (by omega)
              obtain ⟨q1, hq1, c1⟩ := (HKW.out wr hkr.low).num (i := A1) (by omega)
              obtain ⟨m, hm⟩ : ∃ m, m = num ((b.drop A).take 2) := ⟨_, rfl⟩
              have HM : Hid (m = num ((b.drop A).take 2)) := hm
              have hmv : m = 256 * q0.toNat + q1.toNat := by rw [hm]; exact num_at2 hq0 (by rw [← hA1]; exact hq1)
              have hb0 := u8_lt q0
              have hb1 := u8_lt q1
              clear hm hq0 hq1
              generalize q0.toNat = m0 at c0 hmv hb0
              generalize q1.toNat = m1 at c1 hmv hb1
              have i1 : (A : Int) + 1 = (A1 : Int) := by omega
              have j0 : A < b.length := by omega
              have j1 : A1 < b.length := by omega
              have j2 : (A1 : Int) < (b.length : Int) := by omega
              have j3 : (A : Int) < (b.length : Int) := by omega
              clear hkr hJ hFl hA1
              go_wp2_with fail
              go_cut [9] (fun s9 wx => s9 = .int .i64 m ∧ KRead w wx (.slice ap ps.length cp) (.slice av j cv) ps F)
              case first =>
                go_quiet (fail)
                go_wp2_with fail
                go_meet
                exact ⟨by rw [hmv]; simp, HKR2.out.draws _⟩
              case rest =>
              obtain ⟨rfl, hk1⟩ := hcut
              have HKR3 : Hid (KRead w wc (.slice ap ps.length cp) (.slice av j cv) ps F) := hk1
              clear HKR2 hk1 c0 c1 i1 j0 j1 j2 j3 x0 x1 f0 f1 y0 y1
              have HKR2 : Hid (KRead w wc (.slice ap ps.length cp) (.slice av j cv) ps F) := HKR3.out
              clear HKR3
              obtain ⟨x0, x1⟩ := HKR2.out.box0.cells
              obtain ⟨f0, f1⟩ := HKR2.out.box0.open
              obtain ⟨y0, y1⟩ := HKR2.out.box1.cells
              obtain ⟨A2, hA2⟩ : ∃ A2, A2 = A + 2 := ⟨_, rfl⟩
              have hmb : m < 65536 := by omega
              have hA2b : A2 ≤ b.length := by omega
              clear hmv hb0 hb1
              go_upto_region 19 with fail
              go_cut [6] (fun s6 wx => s6 = .int .i64 A2 ∧ wx = wc)
              case first =>
                go_wp2_with fail
                go_meet
                exact ⟨by rw [hA2]; simp, rfl⟩
              case rest =>
              obtain ⟨rfl, rfl⟩ := hcut
              by_cases htm : b.length < A2 + m
              · have htmz : (b.length : Int) < (A2 : Int) + (m : Int) := by omega
                have HR : Hid (∀ d, readK b ≠ some (d, [])) := fun d h => by
                  rw [HREAD2.out, HJ.out, hS1] at h
                  unfold readKs at h
                  rw [if_neg (by rw [List.length_drop]; omega), if_pos (by rw [← HM.out, List.length_drop]; omega)] at h
                  cases h
                clear hS1 hA2
                go_wp2
                have hr := HKR2.out.ret (ok := false) (.inl ⟨rfl, HR.out⟩)
                exact bodyPost_ret (ret_kids2 (u := .bool false) rfl rfl rfl hr.1) rfl hr.2
              · have htmz : ¬ (b.length : Int) < (A2 : Int) + (m : Int) := by omega
                obtain ⟨A3, hA3⟩ : ∃ A3, A3 = A2 + m := ⟨_, rfl⟩
                obtain ⟨key, hkey⟩ : ∃ key, key = (b.drop A2).take m := ⟨_, rfl⟩
                have hkl : key.length = m := by rw [hkey, List.length_take, List.length_drop]; omega
                have HKL : Hid (key.length = m) := hkl
                have hkl2 : key.length ≤ 65536 := by omega
                have HKY : Hid (key = (b.drop A2).take m) := hkey
                have HJ2 : Hid (∀ e : Kc, e.k = key → T = (readKs (n - 1 - (j + 1)) (b.drop A3)).map fun x => (keysOf (F ++ [e]) ++ x.1, x.2)) := fun e he => by
                  rw [HJ.out, hS1]
                  conv => lhs; unfold readKs
                  rw [if_neg (by rw [List.length_drop]; omega), if_neg (by rw [← HM.out, List.length_drop]; omega), ← HM.out, List.drop_drop, List.drop_drop, ← hA2, ← hkey, show A + (2 + m) = A3 by omega, Option.map_map]
                  congr 1
                  funext x
                  simp [keysOf, he]
                have HROW : Hid (wc.ownsRow w.heap.size 27 1 (.slice av j cv) j (F.map Kc.v)) := by
                  have h9 := HKR2.out.keys.own
                  rw [HFL.out] at h9
                  exact h9
                have HLOW2 : Hid (w.heap.size ≤ wc.heap.size) := HKR2.out.low.size
                have ya : ∀ o, (wc.alloc o).cell? ⟨w.heap.size + 1, 1, none⟩ = some (.slice av j cv) := fun o => ((HKR2.out.box1.here (below_new wc _)).cells).2
                have i1 : (A2 : Int) + (m : Int) = (A3 : Int) := by omega
                have k1 : A2 ≤ A3 := by omega
                have k2 : A3 ≤ c := by omega
                have k3 : (A2 : Int) ≤ (A3 : Int) := by omega
                have k4 : (A3 : Int) ≤ (c : Int) := by omega
                have k5 : A3 - A2 = m := by omega
                have k7 : IntKind.i64.wrap (A3 : Int) = (A3 : Int) := wrapk_of _ (by omega) (by omega)
                have HA3 : Hid (A3 = A2 + m) := hA3
                have hA3b : A3 ≤ b.length := by omega
                clear hA3 hkey hkl hS1 hA2 HJ
                go_wp2_with fail
                go_cut [] (fun wx => ∃ vk' e, KRead w wx (.slice ap ps.length cp) vk' ps (F ++ [e]) ∧ e.k = key)
                case first =>
                  rcases Decidable.em (c = A2) with rfl | hcA
                  · have HKV : Hid (∀ X, Below wc.heap.size wc X → KeyAt X (.slice (some ⟨ga, oa, none⟩) m 0) key) := fun X hX => by
                      have hm0 : m = 0 := by omega
                      have : key = [] := List.eq_nil_of_length_eq_zero (by rw [HKL.out]; exact hm0)
                      rw [this, hm0]
                      exact (KeyIn.void _ _).at (Nat.le_refl _)
                    have k6 : c - c = 0 := by omega
                    go_region_law
                      (first
                        | (refine step_append_key (by rfl) _ _ (by rfl) wc.heap.size _ _ [] key (by rfl) (by first | exact newE_1 wc | exact newE_2 wc) (by rfl) (by first | exact HKV.out _ (below_n1 wc _) | exact HKV.out _ (below_n2 wc _)) (by simp; omega) (by simp) ?_
                           intro v1 w4 hv1 hk4
                           obtain ⟨an, nn, cn, rfl⟩ := hv1.shape
                           have HV1 : Hid (NewKey wc.heap.size w4 (.slice an nn cn) key) := hv1
                           have HB4 : Hid (Below wc.heap.size wc w4) := by first | exact (below_n1 wc _).trans hk4.low | exact (below_n2 wc _).trans hk4.low
                           have HOX : Hid (∀ X, Below w4.heap.size w4 X → X.ownsRow w.heap.size 27 1 (.slice av j cv) j (F.map Kc.v)) := fun X hX => own_same HROW.out fun b _ hl => (HB4.out.trans (hX.mono HB4.out.size)).block b hl
                           obtain ⟨_, y4⟩ := (HKR2.out.box1.here HB4.out).cells
                           have y5 : ∀ o, (w4.alloc o).cell? ⟨w.heap.size + 1, 1, none⟩ = some (.slice av j cv) := fun o => ((HKR2.out.box1.here (HB4.out.alloc HB4.out.size _)).cells).2
                           have y6 : ∀ o, (w4.drew.alloc o).cell? ⟨w.heap.size + 1, 1, none⟩ = some (.slice av j cv) := fun o => ((HKR2.out.box1.here (HB4.out.drew.alloc HB4.out.size _)).cells).2
                           clear hv1 hk4)
                        | (refine step_append_lies _ (by rfl) _ _ 24 (by rfl) w.heap.size 27 i7 (.slice none 0 0) 1 24 Try.underlying24 hi7 hz70 hz71 hz72 rfl (by decide) (.slice av j cv) j (F.map Kc.v) (by rfl) (by first | exact HOX.out _ (below_new w4 _) | exact HOX.out _ (below_n1 w4 _) | exact HOX.out _ (below_new w4 _).drew | exact HOX.out _ (below_n2 w4 _)) ⟨w4.heap.size, 0, none⟩ 1 1 [.slice an nn cn] (by rfl) rfl (by first | exact one_src w4 27 (.slice an nn cn) | exact one_src w4.drew 27 (.slice an nn cn)) (by intro u hu; simp at hu; subst hu; rfl) (by decide) (by unfold maxLen; omega) (by omega) (by have h1 := HLOW2.out; have h2 := HB4.out.size; simp; omega) _ rfl ?_
                           intro g7 c7 w7 ho7 hg7 _ _
                           have h7 : ∃ X, Below w4.heap.size w4 X ∧ X.grownBy w7 (Value.slice av j cv).ownBlock := by
                             first
                               | exact ⟨_, below_new w4 _, hg7⟩
                               | exact ⟨_, below_n1 w4 _, hg7⟩
                               | exact ⟨_, (below_new w4 _).drew, hg7⟩
                               | exact ⟨_, below_n2 w4 _, hg7⟩
                           obtain ⟨X, hX, hgX⟩ := h7
                           have hp7 := HKR2.out.key HFL.out HB4.out HV1.out hX ho7 hgX
                           have HP7 : Hid _ := hp7.2
                           obtain ⟨_, z1⟩ := hp7.1.cells
                           obtain ⟨_, v1⟩ := hp7.1.open
                           clear ho7 hg7 hgX hX hp7))
                    all_goals
                      go_wp2_with fail
                      go_meet
                      first | exact ⟨_, _, HP7.out, rfl⟩ | exact ⟨_, _, HP7.out.drew, rfl⟩
                  · have HKV : Hid (∀ X, Below wc.heap.size wc X → KeyAt X (.slice (some ⟨ga, oa + A2, none⟩) m (c - A2)) key) := fun X hX => by
                      rw [HKY.out]
                      exact (((HKW.out X (HKR2.out.low.trans (hX.mono HLOW2.out))).drop A2 (by omega)).take m _ (by rw [List.length_drop]; omega) (by omega) (Nat.le_refl _)).at (Nat.le_trans HLOW2.out hX.size)
                    go_region_law
                      (first
                        | (refine step_append_key (by rfl) _ _ (by rfl) wc.heap.size _ _ [] key (by rfl) (by first | exact newE_1 wc | exact newE_2 wc) (by rfl) (by first | exact HKV.out _ (below_n1 wc _) | exact HKV.out _ (below_n2 wc _)) (by simp; omega) (by simp) ?_
                           intro v1 w4 hv1 hk4
                           obtain ⟨an, nn, cn, rfl⟩ := hv1.shape
                           have HV1 : Hid (NewKey wc.heap.size w4 (.slice an nn cn) key) := hv1
                           have HB4 : Hid (Below wc.heap.size wc w4) := by first | exact (below_n1 wc _).trans hk4.low | exact (below_n2 wc _).trans hk4.low
                           have HOX : Hid (∀ X, Below w4.heap.size w4 X → X.ownsRow w.heap.size 27 1 (.slice av j cv) j (F.map Kc.v)) := fun X hX => own_same HROW.out fun b _ hl => (HB4.out.trans (hX.mono HB4.out.size)).block b hl
                           obtain ⟨_, y4⟩ := (HKR2.out.box1.here HB4.out).cells
                           have y5 : ∀ o, (w4.alloc o).cell? ⟨w.heap.size + 1, 1, none⟩ = some (.slice av j cv) := fun o => ((HKR2.out.box1.here (HB4.out.alloc HB4.out.size _)).cells).2
                           have y6 : ∀ o, (w4.drew.alloc o).cell? ⟨w.heap.size + 1, 1, none⟩ = some (.slice av j cv) := fun o => ((HKR2.out.box1.here (HB4.out.drew.alloc HB4.out.size _)).cells).2
                           clear hv1 hk4)
                        | (refine step_append_lies _ (by rfl) _ _ 24 (by rfl) w.heap.size 27 i7 (.slice none 0 0) 1 24 Try.underlying24 hi7 hz70 hz71 hz72 rfl (by decide) (.slice av j cv) j (F.map Kc.v) (by rfl) (by first | exact HOX.out _ (below_new w4 _) | exact HOX.out _ (below_n1 w4 _) | exact HOX.out _ (below_new w4 _).drew | exact HOX.out _ (below_n2 w4 _)) ⟨w4.heap.size, 0, none⟩ 1 1 [.slice an nn cn] (by rfl) rfl (by first | exact one_src w4 27 (.slice an nn cn) | exact one_src w4.drew 27 (.slice an nn cn)) (by intro u hu; simp at hu; subst hu; rfl) (by decide) (by unfold maxLen; omega) (by omega) (by have h1 := HLOW2.out; have h2 := HB4.out.size; simp; omega) _ rfl ?_
                           intro g7 c7 w7 ho7 hg7 _ _
                           have h7 : ∃ X, Below w4.heap.size w4 X ∧ X.grownBy w7 (Value.slice av j cv).ownBlock := by
                             first
                               | exact ⟨_, below_new w4 _, hg7⟩
                               | exact ⟨_, below_n1 w4 _, hg7⟩
                               | exact ⟨_, (below_new w4 _).drew, hg7⟩
                               | exact ⟨_, below_n2 w4 _, hg7⟩
                           obtain ⟨X, hX, hgX⟩ := h7
                           have hp7 := HKR2.out.key HFL.out HB4.out HV1.out hX ho7 hgX
                           have HP7 : Hid _ := hp7.2
                           obtain ⟨_, z1⟩ := hp7.1.cells
                           obtain ⟨_, v1⟩ := hp7.1.open
                           clear ho7 hg7 hgX hX hp7))
                    all_goals
                      go_wp2_with fail
                      go_meet
                      first | exact ⟨_, _, HP7.out, rfl⟩ | exact ⟨_, _, HP7.out.drew, rfl⟩
                case rest =>
                  obtain ⟨vk', e, hp', he⟩ := hcut
                  have HKN : Hid (KRead w wc (.slice ap ps.length cp) vk' ps (F ++ [e])) := hp'
                  have HJ3 : Hid _ := HJ2.out e he
                  have HLE : Hid ((F ++ [e]).length = j + 1) := by rw [Hid, List.length_append, HFL.out]; rfl
                  clear hp' he ya
                  go_wp2
                  exact ⟨⟨I + 1, j + 1, A3, vk', _, by go_num, by first | rfl | go_num, by omega, HKN.out, HLE.out, hA3b, HJ3.out⟩, by simp [intOf]; omega⟩
          · have hzl : ¬ (I : Int) < (n : Int) := by omega
            have HEND : Hid (readK b = some (⟨ps, keysOf F⟩, b.drop A)) := by
              rw [Hid, HREAD2.out, HJ.out, show n - 1 - j = 0 by omega]
              simp [readKs]
            by_cases hfin : A = b.length
            · have hz : ((A : Int) == (b.length : Int)) = true := by simp; omega
              have HR : Hid (readK b = some (⟨ps, keysOf F⟩, [])) := by rw [Hid, HEND.out, List.drop_of_length_le (by omega)]
              clear hkr hJ hFl hfin
              go_wp2
              have hr := HKR2.out.ret (ok := true) (.inr ⟨rfl, HR.out⟩)
              exact bodyPost_ret (ret_kids2 (u := .bool true) rfl rfl rfl hr.1) rfl hr.2
            · have hz : ((A : Int) == (b.length : Int)) = false := by simp; omega
              have HR : Hid (∀ d, readK b ≠ some (d, [])) := fun d h => by
                rw [HEND.out] at h
                have h9 := congrArg (fun x => x.map fun y => y.2.length) h
                simp at h9
                omega
              clear hkr hJ hFl hfin
              go_wp2
              have hr := HKR2.out.ret (ok := false) (.inl ⟨rfl, HR.out⟩)
              exact bodyPost_ret (ret_kids2 (u := .bool false) rfl rfl rfl hr.1) rfl hr.2
end Go.Proofs.Ytaehchijeinloaa
