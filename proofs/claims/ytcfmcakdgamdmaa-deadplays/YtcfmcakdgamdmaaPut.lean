/- Put. -/
import Derived.Test.YtcfmcakdgamdmaaInsert2
import Derived.Deep.DeepCutAuto
namespace Go.Proofs.Ytcfmcakdgamdmaa
open Go.RowKit

theorem common_not {y x : Lf} (h : ¬ meets y x) : commonL y x = ⟨0, 0, 0⟩ := by
  unfold commonL
  rw [if_neg]
  rintro ⟨h1, h2⟩
  unfold meets at h
  omega
theorem common_yes {y x : Lf} (hy : spanL y) (hx : spanL x) (h : meets y x) : ∃ m n : Int, commonL y x = ⟨y.p, m, n⟩ := by
  unfold commonL
  unfold meets at h
  unfold spanL at hy hx
  rw [if_pos (by omega)]
  exact ⟨_, _, rfl⟩
/-- The lives beside a place. -/
def besideL (L : List Lf) (p : Nat) : List Lf := (L.drop (p - 1)).take (min (p + 1) L.length - (p - 1))
theorem besideL_length (L : List Lf) (p : Nat) : (besideL L p).length = min (p + 1) L.length - (p - 1) := by
  unfold besideL
  rw [List.length_take, List.length_drop]
  omega
theorem besideL_sub {L : List Lf} {p : Nat} {y : Lf} (h : y ∈ besideL L p) : y ∈ L := List.mem_of_mem_drop (List.mem_of_mem_take h)
theorem putE_beside {L : List Lf} (h : OkL L) {x : Lf} (hx : spanL x) {p : Nat} (hp : PlaceL L x p) (hm : ∀ y ∈ besideL L p, ¬ meets y x) : putE L x = 0 := by
  unfold putE
  rw [if_neg (by simpa using hx), if_neg]
  rintro ⟨a, ha, hma⟩
  obtain ⟨j, y, hj, hy, hmy⟩ := meets_beside h hp ha hma
  refine hm y ?_ hmy
  have hl := (List.getElem?_eq_some_iff.1 hy).1
  have hpl := hp.le
  refine List.mem_of_getElem? (i := j - (p - 1)) ?_
  unfold besideL
  rw [List.getElem?_take, if_pos (by omega), List.getElem?_drop, show p - 1 + (j - (p - 1)) = j by omega]
  exact hy
theorem putE_meets {L : List Lf} {x : Lf} (hx : spanL x) {y : Lf} (hy : y ∈ L) (hm : meets y x) : putE L x = 102 := by
  unfold putE
  rw [if_neg (by simpa using hx), if_pos ⟨y, hy, hm⟩]
theorem rows_beside {w : World} {L : List Lf} {p c : Nat} {a a' : Option Addr} {c' : Nat} (h : LivesAt w (.slice a L.length c) L) (ha : ∀ g off, a = some ⟨g, off, none⟩ → 0 < L.length → a' = some ⟨g, off + (p - 1) * 3, none⟩) (hc : (besideL L p).length ≤ c') (hn : a' = none → c' = 0) :
    LivesAt w (.slice a' (besideL L p).length c') (besideL L p) := by
  obtain ⟨⟨a0, c0, e, h1, h2, h3⟩, _⟩ := h
  cases e
  refine ⟨⟨a', c', rfl, hc, hn, fun j u hj => ?_⟩, flatL_length _⟩
  have hj2 := hj
  unfold besideL at hj
  rw [flatL_take, List.getElem?_take] at hj
  split at hj
  · rw [flatL_drop, List.getElem?_drop] at hj
    obtain ⟨g, off, e1, e2, e3⟩ := h3 _ _ hj
    have hl := (List.getElem?_eq_some_iff.1 hj).1
    rw [flatL_length] at hl
    exact ⟨g, off + (p - 1) * 3, ha g off e1 (by omega), e2, by rw [Nat.add_assoc]; exact e3⟩
  · cases hj
/-- Behind the cut: the lives beside the place. -/
structure Beside (w wx : World) (M : List Lf) (s t i : Value) : Prop where
  row : LivesAt wx s M
  len : t = .int .i64 (M.length : Int)
  zero : i = .int .i64 0
  low : Below w.heap.size w wx
theorem beside_mk {w wx : World} {L : List Lf} {p c : Nat} {a a' : Option Addr} {m c' : Nat} (h : LivesAt w (.slice a L.length c) L) (hm : m = (besideL L p).length) (ha : ∀ g off, a = some ⟨g, off, none⟩ → 0 < L.length → a' = some ⟨g, off + (p - 1) * 3, none⟩) (hc : m ≤ c') (hn : a' = none → c' = 0) (hb : Below w.heap.size w wx) :
    Beside w wx (besideL L p) (.slice a' m c') (.int .i64 (m : Int)) (.int .i64 0) := by
  subst hm
  exact ⟨(rows_beside h ha hc hn).here hb, rfl, rfl, hb⟩
/-- What Put leaves. -/
structure PutPost (base : Nat) (w : World) (b : Nat) (v : Value) (L : List Lf) (x : Lf) (r : Ending) (w' : World) : Prop where
  is : ∃ v', r = .returned (.int .i64 (putE L x)) ∧ ListAt base w' b v' (putL L x) ∧ Kept (Its b v) w w' ∧ Moved w v v'
theorem put_bad {base : Nat} {w w' : World} {b : Nat} {v : Value} {L : List Lf} {x : Lf} (h : ListAt base w b v L) (hb : Below w.heap.size w w') (z : Int) (hz : putE L x = z) (h0 : z ≠ 0) : PutPost base w b v L x (.returned (.int .i64 z)) w' := by
  refine ⟨v, by rw [hz], ?_, Kept.of_below hb, fun k hk => .inl hk⟩
  have : putL L x = L := by unfold putL; rw [if_neg (by rw [hz]; exact h0)]
  rw [this]
  exact h.below hb
theorem put_good {base : Nat} {w Wa w6 : World} {b : Nat} {v v6 : Value} {L M6 : List Lf} {x : Lf} (h : ListAt base w b v L) (hb : Below w.heap.size w Wa) (hg : Wa.grownBy w6 v.ownBlock) (hn : NewL base w6 v6 M6) (hk : w6.heap[b]? = some (.cells #[v] 63 (0, 0))) (hm : Moved Wa v v6)
    (hM : M6 = putL L x) (h0 : putE L x = 0) (hlen : (L.length + 1) * 24 ≤ 140737488355328) : PutPost base w b v L x (.returned (.int .i64 0)) (w6.setCell ⟨b, 0, none⟩ v6) := by
  subst hM
  have hne : v6.ownBlock ≠ some b := fun e => by
    obtain ⟨_, _, cur, hc⟩ := own_type hn b e
    rw [hk] at hc
    simp at hc
  refine ⟨v6, by rw [h0], ⟨?_, ?_, h.ok.put x, h.low, ?_⟩, ?_, fun k hk => ?_⟩
  · have := heap_set_same (i := 0) v6 hk
    simpa using this
  · exact own_kept hn (setCell_kept v6) (fun i hi e => hne (by rw [hi, e]))
  · have := putL_length L x
    omega
  · refine ((Kept.of_below hb).trans (Kept.of_grown (S := Its b v) hg (fun k hk => .inr hk)) (fun _ _ h => h)).trans (setCell_kept v6) (fun i _ hi => .inl hi)
  · rcases hm k hk with h | h
    · exact .inl h
    · exact .inr (Nat.le_trans hb.size h)
set_option maxHeartbeats 3200000 in
set_option maxRecDepth 100000 in
theorem put_any {base : Nat} {w : World} {b : Nat} {v : Value} {L : List Lf} {x : Lf} (h : ListAt base w b v L) (hbase : base ≤ w.heap.size) (hlen : (L.length + 1) * 24 ≤ 140737488355328) :
    Calls Try.prog 21 #[.pointer (some ⟨b, 0, none⟩), aggL x] w fun r w' => PutPost base w b v L x r w' := by
  unfold aggL
  have HB0 : Hid (Below w.heap.size w (w.alloc (.cells #[.int .i64 x.p, .int .u64 x.b, .int .u64 x.d] 34))) := below_new w _
  by_cases h1 : x.p < 2
  · have HE : Hid (putE L x = 101) := by show _ = _; unfold putE; rw [if_pos (fun hs => by unfold spanL at hs; omega)]
    have H : Hid _ := h
    clear h
    go_enter Try.func21, Try.ntmps21
    go_wp2_with fail
    go_ret
    exact put_bad H.out HB0.out _ HE.out (by decide)
  by_cases h2 : 65536 ≤ x.p
  · have HE : Hid (putE L x = 101) := by show _ = _; unfold putE; rw [if_pos (fun hs => by unfold spanL at hs; omega)]
    have H : Hid _ := h
    clear h
    go_enter Try.func21, Try.ntmps21
    go_wp2_with fail
    go_ret
    exact put_bad H.out HB0.out _ HE.out (by decide)
  by_cases h3 : x.d ≤ x.b
  · have HE : Hid (putE L x = 101) := by show _ = _; unfold putE; rw [if_pos (fun hs => by unfold spanL at hs; omega)]
    have H : Hid _ := h
    clear h
    go_enter Try.func21, Try.ntmps21
    go_wp2_with fail
    go_ret
    exact put_bad H.out HB0.out _ HE.out (by decide)
  have HSX : Hid (spanL x) := ⟨by omega, by omega, by omega⟩
  obtain ⟨W, hW⟩ : ∃ W, W = w.alloc (.cells #[.int .i64 x.p, .int .u64 x.b, .int .u64 x.d] 34) := ⟨_, rfl⟩
  have hxW : W.heap[w.heap.size]? = some (.cells #[.int .i64 x.p, .int .u64 x.b, .int .u64 x.d] 34 (0, 0)) := by rw [hW]; exact heap_alloc_last w _
  rw [← hW] at HB0
  have hWL := h.below HB0.out
  have c0 := hWL.cell
  have x0 : W.cell? ⟨w.heap.size, 0, none⟩ = some (.int .i64 x.p) := row_cell hxW 0
  have x1 : W.cell? ⟨w.heap.size, 1, none⟩ = some (.int .u64 x.b) := row_cell hxW 1
  have x2 : W.cell? ⟨w.heap.size, 2, none⟩ = some (.int .u64 x.d) := row_cell hxW 2
  have HXW : Hid _ := hxW
  have HWL : Hid _ := hWL
  have H : Hid _ := h
  have hxl : w.heap.size < W.heap.size := (Array.getElem?_eq_some_iff.1 hxW).1
  have hbl : b < w.heap.size := h.lt
  have hbW : b < W.heap.size := by omega
  have hsh : L.length ≤ 140737488355328 := by omega
  have HC : Hid (∀ W', Below W.heap.size W W' → Calls Try.prog 36 #[v, .agg #[.int .i64 x.p, .int .u64 x.b, .int .u64 x.d], .func (.func 37) #[] #[]] W' fun r w' => PlacePost W' L x r w') := fun W' hb => searchL_any ((RowAt.own HWL.out.row).here hb) H.out.ok hsh
  clear h hWL hxW
  go_enter Try.func21, Try.ntmps21
  go_wp2_with fail
  rw [← hW]
  clear hW
  go_region_held_law (fun W' => W'.cell? ⟨w.heap.size, 0, none⟩ = some (.int .i64 x.p) ∧ W'.cell? ⟨w.heap.size, 1, none⟩ = some (.int .u64 x.b) ∧ W'.cell? ⟨w.heap.size, 2, none⟩ = some (.int .u64 x.d) ∧ W'.cell? ⟨b, 0, none⟩ = some v) (first | go_keep | (refine ⟨?_, ?_, ?_, ?_⟩ <;> assumption))
    ((go_at_call 36; refine (HC.out _ (below_drew (Below.refl _ _))).mono ?_; rintro r w2 ⟨p, bb, rfl, hp, hb2⟩
      have y0 := (hb2.cell (p := ⟨w.heap.size, 0, none⟩) hxl).trans x0
      have y1 := (hb2.cell (p := ⟨w.heap.size, 1, none⟩) hxl).trans x1
      have y2 := (hb2.cell (p := ⟨w.heap.size, 2, none⟩) hxl).trans x2
      have y3 := (hb2.cell (p := ⟨b, 0, none⟩) hbW).trans c0
      have HB2 : Hid (Below W.heap.size W w2) := Below.trans (below_drew (Below.refl _ _)) hb2
      have HP : Hid _ := hp
      clear hb2 hp))
  go_wp2_with fail
  have hpl := HP.out.le
  have HR2 : Hid (LivesAt w2 v L) := (RowAt.own HWL.out.row).here HB2.out
  have HML := besideL_length L p
  have hML2 : (besideL L p).length ≤ L.length := by rw [HML]; omega
  have hlo : (((p - 1 : Nat)) : Int) ≤ ((min (p + 1) L.length : Nat) : Int) := by omega
  have hmx : max ((p : Int) - 1) 0 = ((p - 1 : Nat) : Int) := by omega
  have hmn : min ((p : Int) + 1) (L.length : Int) = ((min (p + 1) L.length : Nat) : Int) := by omega
  obtain ⟨lo, hloe⟩ : ∃ lo, lo = p - 1 := ⟨_, rfl⟩
  obtain ⟨hi, hhie⟩ : ∃ hi, hi = min (p + 1) L.length := ⟨_, rfl⟩
  rw [← hloe] at HML hlo hmx
  rw [← hhie] at HML hlo hmn
  have hhn : (hi : Int) ≤ (L.length : Int) := by omega
  have HMLh : Hid _ := HML
  have HLO : Hid _ := hloe
  have HHI : Hid _ := hhie
  clear HML hloe hhie
  rcases RowAt.own HWL.out.row with ⟨⟨av, cv, rfl, hcv, hnv, _⟩, _⟩
  have hcz : (L.length : Int) ≤ (cv : Int) := by omega
  have hhc : (hi : Int) ≤ (cv : Int) := by omega
  go_cut [48, 49, 50] (fun s48 s49 s50 wx => Beside w2 wx (besideL L p) s48 s49 s50)
  case first =>
    cases av with
    | none =>
      obtain rfl := hnv rfl
      obtain rfl : hi = 0 := by omega
      have HL0 : Hid (L.length = 0) := by show _ = _; omega
      obtain rfl : p = 0 := by omega
      obtain rfl : lo = 0 := by omega
      have HM0 : Hid ((min (1 : Int) (L.length : Int)).toNat - (max (-1 : Int) 0).toNat = (besideL L 0).length) := by show _ = _; rw [besideL_length]; omega
      go_region
      all_goals
        go_wp2_with fail
        go_meet
        exact beside_mk HR2.out HM0.out (fun g off e => by cases e) (by rw [HM0.out, besideL_length, HL0.out]; simp) (fun _ => rfl) (below_drew (Below.refl _ _))
    | some ad =>
      obtain ⟨gd, od, sd⟩ := ad
      have HM0 : Hid (hi - lo = (besideL L p).length) := HMLh.out.symm
      by_cases hcl : cv = lo
      · have HL0 : Hid (L.length = 0 ∧ hi - lo = 0) := by
          have h1 := HLO.out
          have h2 := HHI.out
          exact ⟨by omega, by omega⟩
        go_region
        all_goals
          go_wp2_with fail
          go_meet
          exact beside_mk HR2.out HM0.out (fun g off e h0 => absurd h0 (by rw [HL0.out.1]; omega)) (by rw [HL0.out.2]; exact Nat.zero_le _) (fun h => by cases h) (below_drew (Below.refl _ _))
      · have HL1 : Hid (hi - lo ≤ cv - lo) := by show _ ≤ _; omega
        go_region
        all_goals
          go_wp2_with fail
          go_meet
          exact beside_mk HR2.out HM0.out (fun g off e h0 => by cases e; rw [add_at, HLO.out]) HL1.out (fun h => by cases h) (below_drew (Below.refl _ _))
  case rest =>
    have hrow := hcut.row
    obtain rfl := hcut.len
    obtain rfl := hcut.zero
    have HBC : Hid (Below w2.heap.size w2 wc) := hcut.low
    have HBM : Hid (∀ y ∈ besideL L p, y ∈ L) := fun y hy => besideL_sub hy
    have HPE : Hid ((∀ y ∈ besideL L p, ¬ meets y x) → putE L x = 0) := putE_beside H.out.ok HSX.out HP.out
    clear hcut
    generalize besideL L p = M at hrow HBM HPE HMLh hML2 ⊢
    obtain ⟨am, cm, rfl⟩ := hrow.form
    have HRM : Hid (LivesAt wc (.slice am M.length cm) M) := hrow
    have HBW : Hid (Below w.heap.size w wc) := (HB0.out.trans (HB2.out.mono HB0.out.size)).trans (HBC.out.mono (HB0.out.trans (HB2.out.mono HB0.out.size)).size)
    have HXC : Hid (wc.heap[w.heap.size]? = some (.cells #[.int .i64 x.p, .int .u64 x.b, .int .u64 x.d] 34 (0, 0))) := by
      show _ = _
      rw [HBC.out.block _ (Nat.lt_of_lt_of_le hxl HB2.out.size), HB2.out.block _ hxl]
      exact HXW.out
    have hxc : w.heap.size < wc.heap.size := (Array.getElem?_eq_some_iff.1 HXC.out).1
    clear hrow y0 y1 y2 y3 x0 x1 x2 c0 hlo hmx hmn hhn hcz hhc HC HR2 HMLh HLO HHI
    go_wp2_with fail
    go_loopw [50] (fun i wx => ∃ k : Nat, k ≤ M.length ∧ i = .int .i64 k ∧ (∀ y ∈ M.take k, ¬ meets y x) ∧ Below wc.heap.size wc wx) (fun i _ => M.length - (intOf i).toNat)
    case atStart => exact ⟨0, Nat.zero_le _, rfl, fun y hy => by simp at hy, Below.refl _ _⟩
    case round =>
      obtain ⟨k, hk, rfl, hmk, hbr⟩ := hrel
      have HMK : Hid _ := hmk
      have HBR : Hid _ := hbr
      have hxr : wr.heap[w.heap.size]? = some (.cells #[.int .i64 x.p, .int .u64 x.b, .int .u64 x.d] 34 (0, 0)) := by rw [hbr.block _ hxc]; exact HXC.out
      have hxs : w.heap.size < wr.heap.size := (Array.getElem?_eq_some_iff.1 hxr).1
      clear hmk hbr
      by_cases hlt : k < M.length
      · have hltz : (k : Int) < (M.length : Int) := by omega
        obtain ⟨y, hy⟩ : ∃ y, M[k]? = some y := ⟨_, List.getElem?_eq_getElem hlt⟩
        obtain ⟨gm, om, rfl, hgm, k0, k1, k2⟩ := lives_cell (HRM.out.here HBR.out) hy
        have hyM := List.mem_of_getElem? hy
        have HTK : Hid (M.take (k + 1) = M.take k ++ [y]) := by show _ = _; rw [List.take_add_one, hy]; rfl
        obtain ⟨wa, hwa⟩ : ∃ wa, wa = wr.alloc (.cells #[.int .i64 y.p, .int .u64 y.b, .int .u64 y.d] 34) := ⟨_, rfl⟩
        have hya : wa.heap[wr.heap.size]? = some (.cells #[.int .i64 y.p, .int .u64 y.b, .int .u64 y.d] 34 (0, 0)) := by rw [hwa]; exact heap_alloc_last wr _
        have hba : Below wr.heap.size wr wa := by rw [hwa]; exact below_new wr _
        have hxa : wa.heap[w.heap.size]? = some (.cells #[.int .i64 x.p, .int .u64 x.b, .int .u64 x.d] 34 (0, 0)) := by rw [hba.block _ hxs]; exact hxr
        have a0 : wa.cell? ⟨wr.heap.size, 0, none⟩ = some (.int .i64 y.p) := row_cell hya 0
        have a1 : wa.cell? ⟨wr.heap.size, 1, none⟩ = some (.int .u64 y.b) := row_cell hya 1
        have a2 : wa.cell? ⟨wr.heap.size, 2, none⟩ = some (.int .u64 y.d) := row_cell hya 2
        have e0 : wa.cell? ⟨w.heap.size, 0, none⟩ = some (.int .i64 x.p) := row_cell hxa 0
        have e1 : wa.cell? ⟨w.heap.size, 1, none⟩ = some (.int .u64 x.b) := row_cell hxa 1
        have e2 : wa.cell? ⟨w.heap.size, 2, none⟩ = some (.int .u64 x.d) := row_cell hxa 2
        have HBA : Hid (Below wc.heap.size wc wa) := HBR.out.trans (hba.mono HBR.out.size)
        have hcm := common_any wa y x
        have hsy := H.out.ok.span y (HBM.out y hyM)
        clear hxr hya hxa hba
        by_cases hm : meets y x
        · obtain ⟨m1, m2, hcc⟩ := common_yes hsy HSX.out hm
          rw [hcc] at hcm
          have HPM : Hid (putE L x = 102) := putE_meets HSX.out (HBM.out y hyM) hm
          have hy2 : (y.p != 0) = true := by unfold spanL at hsy; simp; omega
          have hy3 : (y.p == 0) = false := by unfold spanL at hsy; simp; omega
          have hy4 : ¬ y.p = 0 := by unfold spanL at hsy; omega
          have HCM : Hid (Calls Try.prog 38 #[.agg #[.int .i64 y.p, .int .u64 y.b, .int .u64 y.d], .agg #[.int .i64 x.p, .int .u64 x.b, .int .u64 x.d]] wa fun e w' => e = .returned (.agg #[.int .i64 y.p, .int .u64 m1, .int .u64 m2]) ∧ Below wa.heap.size wa w') := hcm
          clear hcm hcc hm hsy hy
          go_upto_region 7 with fail
          rw [← hwa]
          clear hwa
          go_wp2_with (go_at_call 38; refine HCM.out.mono ?_; rintro r w5 ⟨rfl, hb5⟩; have HB5 : Hid _ := hb5; clear hb5)
          go_ret
          exact put_bad H.out (Below.trans (Below.trans HBW.out (Below.mono HBA.out (Below.size HBW.out))) (Below.mono HB5.out (Nat.le_trans (Below.size HBW.out) (Below.size HBA.out)))) _ HPM.out (by decide)
        · have hcc := common_not hm
          rw [hcc] at hcm
          have HMK2 : Hid (∀ z ∈ M.take (k + 1), ¬ meets z x) := fun z hz => by
            rw [HTK.out, List.mem_append] at hz
            rcases hz with hz | hz
            · exact HMK.out z hz
            · simp at hz; subst hz; exact hm
          have HCM : Hid (Calls Try.prog 38 #[.agg #[.int .i64 y.p, .int .u64 y.b, .int .u64 y.d], .agg #[.int .i64 x.p, .int .u64 x.b, .int .u64 x.d]] wa fun e w' => e = .returned (.agg #[.int .i64 0, .int .u64 0, .int .u64 0]) ∧ Below wa.heap.size wa w') := hcm
          clear hcm hcc hm hsy hy
          go_upto_region 7 with fail
          rw [← hwa]
          clear hwa
          go_wp2_with (go_at_call 38; refine HCM.out.mono ?_; rintro r w5 ⟨rfl, hb5⟩; have HB5 : Hid _ := hb5; clear hb5)
          exact ⟨⟨k + 1, by omega, by go_num, HMK2.out, Below.trans HBA.out (Below.mono HB5.out (Below.size HBA.out))⟩, by simp [intOf]; omega⟩
      · have hltz : ¬ (k : Int) < (M.length : Int) := by omega
        have HP0 : Hid (putE L x = 0) := HPE.out (fun y hy => HMK.out y (by rw [List.take_of_length_le (by omega)]; exact hy))
        have HBWR : Hid (Below w.heap.size w wr) := HBW.out.trans (HBR.out.mono HBW.out.size)
        have hLr := H.out.below HBWR.out
        have c0 := hLr.cell
        have f0 := hLr.frozen
        have x0 : wr.cell? ⟨w.heap.size, 0, none⟩ = some (.int .i64 x.p) := row_cell hxr 0
        have x1 : wr.cell? ⟨w.heap.size, 1, none⟩ = some (.int .u64 x.b) := row_cell hxr 1
        have x2 : wr.cell? ⟨w.heap.size, 2, none⟩ = some (.int .u64 x.d) := row_cell hxr 2
        have HLR : Hid _ := hLr
        have hwbr := HBWR.out.size
        have HIN : Hid (∀ W', Below wr.heap.size wr W' → W'.heap[wr.heap.size]? = some (.cells #[.int .i64 x.p, .int .u64 x.b, .int .u64 x.d] 34 (0, 0)) → Calls Try.prog 39 #[.slice av L.length cv, .int .i64 (p : Int), .slice (some ⟨wr.heap.size, 0, none⟩) 1 1] W' fun r w' => InsPost base W' (.slice av L.length cv) L p x r w') := fun W' hb hg =>
          insert_any (HLR.out.below hb).row (by have := hb.size; omega) hpl hlen hg (fun e => by have := (HLR.out.its _ (.inr e)).2; omega)
        clear hxr hLr
        go_wp2_with fail
        have hbr := HLR.out.lt
        obtain ⟨M6, hM6⟩ : ∃ M6, M6 = L.take p ++ x :: L.drop p := ⟨_, rfl⟩
        have HM66 : Hid (M6 = putL L x) := by
          show _ = _
          unfold putL insL
          rw [if_pos HP0.out, ← (PlaceL.uniq HP.out (place_of H.out.ok x)), hM6]
        have HMM : Hid _ := hM6
        clear hM6
        go_region_with (
          (go_at_call 39
           refine (HIN.out _ (by first | exact below_drew (below_new _ _) | exact (below_drew (Below.refl _ _)).alloc (Nat.le_refl _) _) (by exact heap_alloc_last wr _)).mono ?_
           rintro r w6 ⟨v6, rfl, hn6, hg6, hm6⟩
           rw [← HMM.out] at hn6
           obtain ⟨a6, c6, e6⟩ := own_slice hn6
           subst e6
           have hk6 : w6.heap[b]? = some (.cells #[.slice av L.length cv] 63 (0, 0)) := (hg6.block b (by simp; omega) (fun e => HLR.out.apart e.symm)).trans (((below_new wr _).block b hbr).trans HLR.out.cells)
           have k6 : w6.cell? ⟨b, 0, none⟩ = some (.slice av L.length cv) := row_cell hk6 0
           have z6 : w6.frozen? ⟨b, 0, none⟩ = false := row_frozen hk6 0
           have HK6 : Hid _ := hk6
           have HN6 : Hid (NewL base w6 (.slice a6 M6.length c6) M6) := hn6
           have HG6 : Hid _ := hg6
           have HM6 : Hid _ := hm6
           clear hn6 hg6 hm6 hk6))
        all_goals
          go_wp2
          go_ret
          exact put_good H.out (Below.trans HBWR.out (Below.mono (by first | exact below_drew (below_new _ _) | exact (below_drew (Below.refl _ _)).alloc (Nat.le_refl _) _) (Below.size HBWR.out))) HG6.out HN6.out HK6.out HM6.out HM66.out HP0.out hlen
end Go.Proofs.Ytcfmcakdgamdmaa
