/- pdqsort. -/
import Derived.Test.YtcfmcakdgamdmaaPartIns
import Derived.Test.YtcfmcakdgamdmaaPartEq
import Derived.Test.YtcfmcakdgamdmaaPiv
import Derived.Deep.CutBlock
namespace Go.Proofs.Ytcfmcakdgamdmaa
open Go.RowKit Go.Sort

structure PdqSt (w wx : World) (g c a b x y : Nat) (d e : Array Int) : Prop where
  size : e.size = d.size
  below : Sort.Below ltInt x y e
  fin : ∀ f, PermIn x y e f → SortedIn ltInt x y f → PermIn a b d f ∧ SortedIn ltInt a b f
  row : URow w wx g c e
structure PdqPost (w : World) (g c a b : Nat) (d : Array Int) (e : Ending) (w' : World) : Prop where
  is : ∃ d', e = .returned (.tuple #[]) ∧ PermIn a b d d' ∧ SortedIn ltInt a b d' ∧ URow w w' g c d'
theorem PdqSt.perm {w wx wy : World} {g c a b x y : Nat} {d e f : Array Int} (h : PdqSt w wx g c a b x y d e) (hy : y ≤ d.size) (hp : PermIn x y e f) (hr : URow wx wy g c f) : PdqSt w wy g c a b x y d f :=
  ⟨hp.1.trans h.size, h.below.perm (by rw [h.size]; exact hy) hp, fun q h1 h2 => h.fin q (permIn_trans _ _ _ _ _ hp h1) h2, h.row.trans hr⟩
theorem PdqSt.stay {w wx wy : World} {g c a b x y : Nat} {d e : Array Int} (h : PdqSt w wx g c a b x y d e) (hb : Below wx.heap.size wx wy) : PdqSt w wy g c a b x y d e :=
  ⟨h.size, h.below, h.fin, h.row.below hb⟩
theorem PdqSt.draws {w wx : World} {g c a b x y : Nat} {d e : Array Int} (h : PdqSt w wx g c a b x y d e) (q : Nat) : PdqSt w (wx.drewN q) g c a b x y d e := ⟨h.size, h.below, h.fin, h.row.draws q⟩
theorem PdqSt.done {w wx wy : World} {g c a b x y : Nat} {d e f : Array Int} (h : PdqSt w wx g c a b x y d e) (hp : PermIn x y e f) (hq : SortedIn ltInt x y f) (hr : URow wx wy g c f) : PdqPost w g c a b d (.returned (.tuple #[])) wy := by
  obtain ⟨h1, h2⟩ := h.fin f hp hq
  exact ⟨f, rfl, h1, h2, h.row.trans hr⟩
set_option maxHeartbeats 12800000 in
set_option maxRecDepth 100000 in
theorem pdq_any : ∀ (N : Nat) {w : World} {g c cc a b lim : Nat} {d : Array Int}, b - a < N → URow w w g c d → a ≤ b → b ≤ d.size → d.size ≤ 140737488355328 → lim ≤ 64 → Sort.Below ltInt a b d →
    Calls Try.prog 43 #[.slice (some ⟨g, 0, none⟩) d.size cc, .int .i64 (a : Int), .int .i64 (b : Int), .int .i64 (lim : Int)] w fun e w' => PdqPost w g c a b d e w' := by
  intro N
  induction N with
  | zero => intro _ _ _ _ _ _ _ _ h; exact absurd h (Nat.not_lt_zero _)
  | succ N ih =>
    intro w g c cc a b lim d hN h hab hb hs hlim hB
    have H0 : Hid (PdqSt w w g c a b a b d d) := ⟨rfl, hB, fun f h1 h2 => ⟨h1, h2⟩, h⟩
    clear h hB
    go_enter Try.func43, Try.ntmps43
    go_wp2_with fail
    go_loopw [1, 2, 3, 8, 9] (fun s1 s2 s3 s8 s9 wx => ∃ (x y l : Nat) (wb wp : Bool) (e : Array Int), s1 = .int .i64 x ∧ s2 = .int .i64 y ∧ s3 = .int .i64 l ∧ s8 = .bool wb ∧ s9 = .bool wp ∧ a ≤ x ∧ x ≤ y ∧ y ≤ b ∧ l ≤ lim ∧ PdqSt w wx g c a b x y d e) (fun s1 s2 _ _ _ _ => (intOf s2 - intOf s1).toNat)
    case atStart => exact ⟨a, b, lim, true, true, d, rfl, rfl, rfl, rfl, rfl, Nat.le_refl _, hab, Nat.le_refl _, Nat.le_refl _, H0.out⟩
    case round =>
      obtain ⟨x, y, l, wb, wp, e, rfl, rfl, rfl, rfl, rfl, hax, hxy, hyb, hl, hst⟩ := hrel
      have ST : Hid _ := hst
      clear hst
      have hyd : y ≤ d.size := by omega
      have hye : y ≤ e.size := by rw [ST.out.size]; exact hyd
      have hes : e.size ≤ 140737488355328 := by rw [ST.out.size]; exact hs
      by_cases h12 : y - x ≤ 12
      · have h12z : (y : Int) - (x : Int) ≤ 12 := by omega
        have hc := insertion_any (cc := cc) ST.out.row.start hxy hye hes
        rw [ST.out.size] at hc
        have HP : Hid _ := insertionSort_holds (lt := ltInt) swo_ltInt e x y hxy hye
        clear hye hes
        go_wp2_with (go_at_call 51; refine hc.mono ?_; rintro r w1 ⟨rfl, hw1⟩; have HW : Hid _ := hw1; clear hw1)
        refine bodyPost_ret (results_none rfl _ _ _) rfl ?_
        exact ST.out.done HP.out.1 HP.out.2 HW.out
      · have h12z : ¬ (y : Int) - (x : Int) ≤ 12 := by omega
        by_cases hl0 : l = 0
        · subst hl0
          have hc := heap_any (cc := cc) ST.out.row.start (show x < y by omega) hye hes
          rw [ST.out.size] at hc
          have HP : Hid _ := heapSort_holds (lt := ltInt) swo_ltInt e x y hxy hye
          clear hye hes
          go_wp2_with (go_at_call 52; refine hc.mono ?_; rintro r w1 ⟨rfl, hw1⟩; have HW : Hid _ := hw1; clear hw1)
          refine bodyPost_ret (results_none rfl _ _ _) rfl ?_
          exact ST.out.done HP.out.1 HP.out.2 HW.out
        · have hl0z : ¬ ((l : Int) = 0) := by omega
          have hx12 : x + 12 < y := by omega
          go_upto_if 35 with fail
          go_cut [3] (fun s3 wx => ∃ (m : Nat) (e1 : Array Int), s3 = .int .i64 m ∧ m ≤ lim ∧ PdqSt w wx g c a b x y d e1)
          case first =>
            cases wb
            · have hc := break_any (cc := cc) ST.out.row.start hx12 hye hes
              rw [ST.out.size] at hc
              clear hye hes
              go_wp2_with (go_at_call 53; refine hc.mono ?_; rintro r w1 ⟨f, rfl, hp1, hw1⟩; have HW : Hid _ := hw1; have HP : Hid _ := hp1; clear hw1 hp1)
              go_meet
              exact ⟨l - 1, f, by go_num, by omega, ST.out.perm hyd HP.out HW.out⟩
            · clear hye hes
              go_wp2_with fail
              go_meet
              exact ⟨l, e, rfl, hl, ST.out⟩
          case rest =>
            clear hye hes
            obtain ⟨m, e1, rfl, hm, hst⟩ := hcut
            have ST1 : Hid _ := hst
            clear hst
            have hc17 := choose_any (cc := cc) ST1.out.row.start hx12 (by rw [ST1.out.size]; exact hyd) (by rw [ST1.out.size]; exact hs)
            rw [ST1.out.size] at hc17
            go_upto_if 50 with (go_at_call 54; refine hc17.mono ?_; rintro r w2 ⟨p0, hn, rfl, hp1, hp2, hhn, hw2⟩; have ST2 : Hid (PdqSt w w2 g c a b x y d e1) := ST1.out.stay hw2; clear hw2)
            go_cut [11, 12] (fun s11 s12 wx => ∃ (p : Nat) (hq : Int) (e2 : Array Int), s11 = .int .i64 p ∧ s12 = .int .i64 hq ∧ x ≤ p ∧ p < y ∧ (hq = 0 ∨ hq = 1 ∨ hq = 2) ∧ PdqSt w wx g c a b x y d e2)
            case first =>
              by_cases hh : hn = 2
              · have hc := reverse_any (cc := cc) ST2.out.row.start (show x < y by omega) (by rw [ST2.out.size]; exact hyd) (by rw [ST2.out.size]; exact hs)
                rw [ST2.out.size] at hc
                have HP : Hid _ := reverseRange_holds e1 x y hxy (by rw [ST2.out.size]; exact hyd)
                clear hc17
                go_wp2_with (go_at_call 55; refine hc.mono ?_; rintro r w3 ⟨rfl, hw3⟩; have HW : Hid _ := hw3; clear hw3)
                go_meet
                exact ⟨y - 1 - (p0 - x), 1, _, by go_num, rfl, by omega, by omega, .inr (.inl rfl), ST2.out.perm hyd HP.out HW.out⟩
              · clear hc17
                go_wp2_with fail
                go_meet
                exact ⟨p0, hn, e1, rfl, rfl, hp1, hp2, hhn, ST2.out⟩
            case rest =>
              obtain ⟨p, hq, e2, rfl, rfl, hxp, hpy, hhq, hst⟩ := hcut
              have ST3 : Hid _ := hst
              clear hst ST2 ST1 ST hhn hp1 hp2 hc17
              go_upto_region 15 with fail
              go_cut [12, 68] (fun s12 s68 wx => s12 = .int .i64 hq ∧ (∃ t : Bool, s68 = .bool t) ∧ wx = wc)
              case first =>
                rcases hhq with rfl | rfl | rfl <;> cases wb <;> cases wp <;>
                  (go_wp2_with fail
                   go_meet
                   exact ⟨rfl, ⟨_, rfl⟩, rfl⟩)
              case rest =>
                obtain ⟨rfl, ⟨t, rfl⟩, hwc⟩ := hcut
                obtain rfl := hwc.symm
                have hpd : p < d.size := by omega
                have hpp := partIns_any (cc := cc) ST3.out.row.start (show x < y by omega) (by rw [ST3.out.size]; exact hyd) (by rw [ST3.out.size]; exact hs)
                rw [ST3.out.size] at hpp
                have HPI : Hid _ := partialInsertionSort_holds (lt := ltInt) swo_ltInt e2 x y (show x < y by omega) (by rw [ST3.out.size]; exact hyd) ST3.out.below
                obtain ⟨q0, hq0⟩ : ∃ q0, q0 = partialInsertionSort ltInt e2 x y := ⟨_, rfl⟩
                rw [← hq0] at hpp HPI
                clear hq0
                obtain ⟨f2, u2⟩ := q0
                have HPJ : Hid (PermIn x y e2 f2 ∧ (u2 = true → SortedIn ltInt x y f2)) := HPI.out
                clear HPI
                go_upto_if 68 with fail
                go_cut [] (fun wx => ∃ e3, PdqSt w wx g c a b x y d e3)
                case first =>
                  cases t
                  · clear hpp
                    go_wp2_with fail
                    go_meet
                    exact ⟨e2, ST3.out⟩
                  · cases u2
                    · go_wp2_with (go_at_call 56; refine hpp.mono ?_; rintro r w4 ⟨rfl, hw4⟩; have HW : Hid (URow _ w4 g c f2) := hw4; clear hw4)
                      go_meet
                      exact ⟨f2, ST3.out.perm hyd HPJ.out.1 HW.out⟩
                    · go_wp2_with (go_at_call 56; refine hpp.mono ?_; rintro r w4 ⟨rfl, hw4⟩; have HW : Hid (URow _ w4 g c f2) := hw4; clear hw4)
                      refine bodyPost_ret (results_none rfl _ _ _) rfl ?_
                      exact ST3.out.done HPJ.out.1 (HPJ.out.2 (by first | rfl | trivial)) HW.out
                case rest =>
                  clear hpp HPJ ST3
                  obtain ⟨e3, hst⟩ := hcut
                  have ST5 : Hid _ := hst
                  have cP := hst.row.cell (show p < e3.size by rw [hst.size]; exact hpd)
                  have hpdz : (p : Int) < (d.size : Int) := by omega
                  go_upto_region 17 with fail
                  go_cut [87] (fun s87 wx => ∃ t : Bool, s87 = .bool t ∧ (t = true → 0 < x ∧ ltInt e3[x - 1]! e3[p]! = false) ∧ PdqSt w wx g c a b x y d e3)
                  case first =>
                    by_cases hx0 : x = 0
                    · subst hx0
                      clear hst
                      generalize e3[p]! = v at cP
                      go_wp2_with fail
                      go_quiet (fail)
                      go_wp2_with fail
                      go_meet
                      exact ⟨false, rfl, fun h => (by cases h), ST5.out.draws _⟩
                    · have hx0z : (x : Int) > 0 := by omega
                      have hx00 : 0 < x := by omega
                      have hx0y : decide ((x : Int) > 0) = true := decide_eq_true hx0z
                      have hxn : (x : Int) < (d.size : Int) := by omega
                      have hx1 : (0 : Int) ≤ (x : Int) - 1 := by omega
                      have hx2 : (x : Int) - 1 < (d.size : Int) := by omega
                      have cX := hst.row.cell (show x - 1 < e3.size by rw [hst.size]; omega)
                      have hxt : ((x : Int) - 1).toNat = x - 1 := by omega
                      have hxw : IntKind.i64.wrap ((x : Int) - 1) = (x : Int) - 1 := by rw [IntKind.wrap_i64]; omega
                      clear hst
                      obtain ⟨u, hu⟩ : ∃ u : Int, u = e3[x - 1]! := ⟨_, rfl⟩
                      obtain ⟨v, hv⟩ : ∃ v : Int, v = e3[p]! := ⟨_, rfl⟩
                      rw [← hu] at cX
                      rw [← hv] at cP
                      have HUV : Hid (u = e3[x - 1]! ∧ v = e3[p]!) := ⟨hu, hv⟩
                      clear hu hv
                      by_cases hlt : u < v
                      · have hlb : decide (u < v) = true := by simpa using hlt
                        clear hlt
                        go_wp2_with fail
                        go_quiet ((go_at_call 57; exact Calls.quiet_of_same (lessU_any _ _ _)))
                        go_wp2_with fail
                        go_meet
                        exact ⟨false, rfl, fun h => (by cases h), ST5.out.draws _⟩
                      · have hlb : decide (u < v) = false := by simpa using hlt
                        have HLT : Hid (ltInt e3[x - 1]! e3[p]! = false) := by show _ = _; rw [← HUV.out.1, ← HUV.out.2]; exact hlb
                        clear hlt
                        go_wp2_with fail
                        go_quiet ((go_at_call 57; exact Calls.quiet_of_same (lessU_any _ _ _)))
                        go_wp2_with fail
                        go_meet
                        exact ⟨true, rfl, fun _ => ⟨by omega, HLT.out⟩, ST5.out.draws _⟩
                  case rest =>
                    clear cP hst ST5 hpdz
                    obtain ⟨t2, rfl, ht2, hst⟩ := hcut
                    have ST6 : Hid _ := hst
                    clear hst
                    have hye : y ≤ e3.size := by rw [ST6.out.size]; exact hyd
                    have hes : e3.size ≤ 140737488355328 := by rw [ST6.out.size]; exact hs
                    cases t2
                    · clear ht2
                      have hc := part_any (cc := cc) ST6.out.row.start hxp hpy hye hes
                      rw [ST6.out.size] at hc
                      obtain ⟨q0, hq0⟩ : ∃ q0, q0 = partition ltInt e3 x y p := ⟨_, rfl⟩
                      rw [← hq0] at hc
                      obtain ⟨mid, ap, e4⟩ := q0
                      obtain ⟨r1, r2, r3, r4, r5, r6, r7⟩ := round_part swo_ltInt (partition_holds ltInt) hxp hpy hye ST6.out.below hq0.symm
                      have h4s : e4.size = d.size := r3.trans ST6.out.size
                      have HR : Hid _ := And.intro r6 r7
                      have HB4 : Hid _ := And.intro r4 r5
                      clear hq0 r3 r4 r5 r6 r7 hye hes
                      have HS4 : Hid _ := h4s
                      clear h4s
                      go_upto_if 113 with (go_at_call 59; refine hc.mono ?_; rintro r w7 ⟨rfl, hw7⟩; have HW : Hid (URow _ w7 g c e4) := hw7; clear hw7)
                      clear hc
                      by_cases h4 : mid - x < y - mid
                      · have h4z : (mid : Int) - (x : Int) < (y : Int) - (mid : Int) := by omega
                        have hih := ih (cc := cc) (a := x) (b := mid) (lim := m) (show mid - x < N by omega) HW.out.start r1 (by rw [HS4.out]; omega) (by rw [HS4.out]; exact hs) (by omega) HB4.out.1
                        rw [HS4.out] at hih
                        go_wp2_with (go_at_call 43; refine hih.mono ?_; rintro r w8 ⟨e5, rfl, hp5, hs5, hw5⟩; have H5 : Hid (PermIn x mid e4 e5 ∧ SortedIn ltInt x mid e5 ∧ URow w7 w8 g c e5) := ⟨hp5, hs5, hw5⟩; clear hp5 hs5 hw5)
                        have h6 := HR.out.1 e5 H5.out.1 H5.out.2.1
                        exact ⟨⟨mid + 1, y, m, _, ap, e5, by go_num, rfl, rfl, rfl, rfl, by omega, by omega, hyb, hm, ⟨H5.out.1.1.trans HS4.out, h6.1, fun f h1 h2 => ST6.out.fin f (h6.2 f h1 h2).1 (h6.2 f h1 h2).2, (ST6.out.row.trans HW.out).trans H5.out.2.2⟩⟩, by simp [intOf]; omega⟩
                      · have h4z : ¬ (mid : Int) - (x : Int) < (y : Int) - (mid : Int) := by omega
                        have hih := ih (cc := cc) (a := mid + 1) (b := y) (lim := m) (show y - (mid + 1) < N by omega) HW.out.start (by omega) (by rw [HS4.out]; omega) (by rw [HS4.out]; exact hs) (by omega) HB4.out.2
                        rw [HS4.out] at hih
                        have hmz : ((mid + 1 : Nat) : Int) = (mid : Int) + 1 := by omega
                        rw [hmz] at hih
                        clear hmz
                        go_wp2_with (go_at_call 43; refine hih.mono ?_; rintro r w8 ⟨e5, rfl, hp5, hs5, hw5⟩; have H5 : Hid (PermIn (mid + 1) y e4 e5 ∧ SortedIn ltInt (mid + 1) y e5 ∧ URow w7 w8 g c e5) := ⟨hp5, hs5, hw5⟩; clear hp5 hs5 hw5)
                        have h6 := HR.out.2 e5 H5.out.1 H5.out.2.1
                        exact ⟨⟨x, mid, m, _, ap, e5, rfl, rfl, rfl, rfl, rfl, hax, r1, by omega, hm, ⟨H5.out.1.1.trans HS4.out, h6.1, fun f h1 h2 => ST6.out.fin f (h6.2 f h1 h2).1 (h6.2 f h1 h2).2, (ST6.out.row.trans HW.out).trans H5.out.2.2⟩⟩, by simp [intOf]; omega⟩
                    · obtain ⟨hx0, hnl⟩ := ht2 rfl
                      clear ht2
                      have hc := partEq_any (cc := cc) ST6.out.row.start hxp hpy hye hes
                      rw [ST6.out.size] at hc
                      obtain ⟨q0, hq0⟩ : ∃ q0, q0 = partitionEqual ltInt e3 x y p := ⟨_, rfl⟩
                      rw [← hq0] at hc
                      obtain ⟨mid, e4⟩ := q0
                      obtain ⟨r1, r2, r3, r4, r5⟩ := round_eq swo_ltInt (partitionEqual_holds ltInt) hx0 hxp hpy hye ST6.out.below hnl hq0.symm
                      have HR : Hid _ := And.intro (r3.trans ST6.out.size) (And.intro r4 r5)
                      clear hq0 r3 r4 r5 hye hes hnl
                      go_wp2_with (go_at_call 58; refine hc.mono ?_; rintro r w7 ⟨rfl, hw7⟩; have HW : Hid (URow _ w7 g c e4) := hw7; clear hw7)
                      exact ⟨⟨mid, y, m, wb, wp, e4, rfl, rfl, rfl, rfl, rfl, by omega, r2, hyb, hm, ⟨HR.out.1, HR.out.2.1, fun f h1 h2 => ST6.out.fin f (HR.out.2.2 f h1 h2).1 (HR.out.2.2 f h1 h2).2, ST6.out.row.trans HW.out⟩⟩, by simp [intOf]; omega⟩
end Go.Proofs.Ytcfmcakdgamdmaa
