/- SpaceOnce's walk. -/
import Derived.Test.YtlokplnapaghhaaDoorBools
import Derived.Test.YtlokplnapaghhaaDoorArgs9
namespace Go.Proofs.YtlokplnapaghhaaDoor
open Go.RowKit

theorem row_same {w w' : World} {g o : Nat} (h : w'.heap[g]? = w.heap[g]?) : w'.cell? ⟨g, o, none⟩ = w.cell? ⟨g, o, none⟩ := by
  simp [World.cell?, h]
theorem below_draws {B : Nat} {a w : World} (h : Below B a w) (n : Nat) : Below B a (w.drewN n) := h.trans ⟨rfl, rfl, rfl, Nat.le_refl _, fun _ _ => rfl⟩
set_option maxRecDepth 100000 in
theorem once_bad (w : World) (ht : Tab w) (blocks used : Int) (v : Value) (h : newOk blocks used = false) :
    Calls Tryd.prog 6 #[.int .i64 blocks, .int .i64 used, v] w fun e w' => e = .returned (.bool true) ∧ Below w.heap.size w w' := by
  have HA := alive_any w ht
  clear ht
  have hc : blocks < 16 ∨ (¬ blocks < 16 ∧ 65536 < blocks) ∨ (¬ blocks < 16 ∧ ¬ 65536 < blocks ∧ used < 0) ∨ (¬ blocks < 16 ∧ ¬ 65536 < blocks ∧ ¬ used < 0 ∧ blocks < used) := by
    by_cases h1 : blocks < 16
    · exact .inl h1
    · by_cases h2 : 65536 < blocks
      · exact .inr (.inl ⟨h1, h2⟩)
      · by_cases h3 : used < 0
        · exact .inr (.inr (.inl ⟨h1, h2, h3⟩))
        · refine .inr (.inr (.inr ⟨h1, h2, h3, ?_⟩))
          have h4 : ¬ used ≤ blocks := by
            intro h4
            have e1 : (16 ≤ blocks) := by omega
            have e2 : (blocks ≤ 65536) := by omega
            have e3 : (0 ≤ used) := by omega
            simp [newOk, e1, e2, e3, h4] at h
          omega
  have HN : ∀ W, Calls Tryd.prog 9 #[.int .i64 blocks, .int .i64 used] W fun e w' => e = .returned (.tuple #[.pointer none, .int .i64 1]) ∧ w' = W := fun W => new_bad W blocks used h
  clear h
  rcases hc with h1 | ⟨h1, h2⟩ | ⟨h1, h2, h3⟩ | ⟨h1, h2, h3, h4⟩
  all_goals
    go_enter Tryd.func6, Tryd.ntmps6
    go_wp2_with (first
      | (go_at_call 8; refine HA.mono ?_; rintro e w1 ⟨rfl, hb⟩; have HB : Hid (Below w.heap.size w w1) := hb; clear hb)
      | (go_at_call 9; refine (HN w1).mono ?_; rintro e w' ⟨rfl, hw'⟩; obtain rfl := hw'.symm))
    go_ret
    exact ⟨rfl, HB.out⟩

set_option maxRecDepth 100000 in
set_option maxHeartbeats 4000000 in
theorem once_ok (w : World) (ht : Tab w) (n u : Nat) (h1 : 16 ≤ n) (h2 : n ≤ 65536) (hu : u ≤ n) (v : Value) (L : List Int) (hL : IntsIn w v L) :
    Calls Tryd.prog 6 #[.int .i64 n, .int .i64 u, v] w fun e w' => e = .returned (.bool true) ∧ Below w.heap.size w w' := by
  have HA := alive_any w ht
  have HT : Hid (Tab w) := ht
  obtain ⟨iO, hiO, hzO0, hzO1, hzO2⟩ := infoO'
  obtain ⟨⟨aL, cL, rfl, hLc⟩, hLs, hLf⟩ := hL
  have HL : Hid _ := hLc
  have HN := fun W => new_ok W n u h1 h2 hu
  clear ht hLc
  go_enter Tryd.func6, Tryd.ntmps6
  go_wp2_with (first
    | (go_at_call 8; refine HA.mono ?_; rintro e w1 ⟨rfl, hb⟩; have HB1 : Hid (Below w.heap.size w w1) := hb; clear hb)
    | (go_at_call 9; refine (HN w1).mono ?_; rintro e w2 ⟨rfl, hs2, hb2⟩
       have HS2 : Hid (SpaceAt w2 w1.heap.size ((Sp.empty n).use 0 u)) := hs2
       have HB2 : Hid (Below w.heap.size w w2) := HB1.out.trans (hb2.mono HB1.out.size)
       have hlt2 : w1.heap.size < w2.heap.size := hs2.lt
       clear hs2 hb2)
    | (at_make; refine wpList_make_full _ rfl _ _ 51 rfl w2.heap.size 4 iO (.bool false) 1 Tryd.underlying51 hiO hzO0 hzO1 _ _ _ _ n rfl rfl (by omega) (by omega) (by rw [hzO2]; omega) (by unfold maxLen; omega) (Nat.le_refl _) ?_
       intro w3 hown3 hg3
       rw [madeBools] at hown3
       have HO3 : Hid (RowU w3 w2.heap.size n (fun _ => false)) := own_bools hown3
       have hb23 : Below w2.heap.size w2 w3 := (Below.refl _ _).grown hg3 (Nat.le_refl _) (fun k h => by cases h)
       have HS3 : Hid (SpaceAt w3 w1.heap.size ((Sp.empty n).use 0 u)) := HS2.out.below hb23
       have HB3 : Hid (Below w.heap.size w w3) := HB2.out.trans (hb23.mono HB2.out.size)
       clear hown3 hg3 hb23))
  obtain ⟨b, hb⟩ : ∃ b, b = w1.heap.size := ⟨_, rfl⟩
  obtain ⟨g, hg⟩ : ∃ g, g = w2.heap.size := ⟨_, rfl⟩
  have hwb : w.heap.size ≤ b := by rw [hb]; exact HB1.out.size
  have hbg : b < g := by omega
  rw [← hb] at HS3 ⊢
  rw [← hg] at HO3 ⊢
  clear hb hg hlt2 HS2 HB2 HB1
  go_loopw [11] (fun i wx => ∃ k : Nat, k ≤ u ∧ i = .int .i64 k ∧ RowU wx g n (fun j => decide (j < k)) ∧ SpaceAt wx b ((Sp.empty n).use 0 u) ∧ Below w.heap.size w wx) (fun i _ => u - (intOf i).toNat)
  case atStart => exact ⟨0, by omega, rfl, HO3.out.ext (fun j _ => by simp), HS3.out, HB3.out⟩
  case round =>
    obtain ⟨k, hk, rfl, hr, hs, hbl⟩ := hrel
    by_cases hlt : k < u
    · have hltz : (k : Int) < (u : Int) := by omega
      have hkn : (k : Int) < (n : Int) := by omega
      have hc := hr.cell (i := k) (by omega)
      have hf := hr.open k
      have HR : Hid (RowU (wr.setCell ⟨g, k, none⟩ (.bool true)) g n (fun j => decide (j < k + 1))) := hr.set k true (fun j _ => by by_cases e : j = k <;> simp [e] <;> omega)
      have HK := setCell_kept (w := wr) (b := g) (i := k) (.bool true)
      have HS : Hid (SpaceAt (wr.setCell ⟨g, k, none⟩ (.bool true)) b ((Sp.empty n).use 0 u)) := hs.kept HK (by omega)
      have HB : Hid (Below w.heap.size w (wr.setCell ⟨g, k, none⟩ (.bool true))) := Kept.below hbl HK hbl.size (fun i hi => by omega)
      clear hr hs hbl HK
      go_wp2
      exact ⟨⟨k + 1, by omega, by go_num, HR.out, HS.out, HB.out⟩, by simp [intOf]; omega⟩
    · have hltz : ¬ (k : Int) < (u : Int) := by omega
      have HE : Hid (k = u) := by show _ = _; omega
      have HR : Hid (RowU wr g n ((Sp.empty n).use 0 u).has) := hr.ext (fun j _ => by rw [Sp.new_has, HE.out])
      have HS : Hid _ := hs
      have HB : Hid _ := hbl
      clear hr hs hbl
      go_wp2
      go_loopw [13, 12] (fun i c wx => ∃ (k : Nat) (s : Sp), k ≤ L.length ∧ i = .int .i64 k ∧ c = .int .i64 (s.used : Int) ∧ s.n = n ∧ RowU wx g n s.has ∧ SpaceAt wx b s ∧ Below w.heap.size w wx) (fun i _ _ => L.length - (intOf i).toNat)
      case atStart => exact ⟨0, (Sp.empty n).use 0 u, by omega, rfl, by rw [Sp.new_used n u hu], Sp.use_n _ _ _, HR.out, HS.out, HB.out⟩
      case round =>
        clear HR HS HB
        obtain ⟨k, s, hk, rfl, rfl, hn, hr, hs, hbl⟩ := hrel
        by_cases hlt : k < L.length
        · have hltz : (k : Int) < (L.length : Int) := by omega
          obtain ⟨z, hz⟩ : ∃ z, L[k]? = some z := ⟨L[k]'hlt, List.getElem?_eq_getElem hlt⟩
          have hzf := hLf z (List.mem_of_getElem? hz)
          obtain ⟨gL, off, rfl, hgL, hcz⟩ := HL.out k z hz
          have htab := HT.out.below hbl
          have hcell : wr.cell? ⟨gL, off + k, none⟩ = some (.int .i64 z) := by rw [← hcz]; exact hbl.cell hgL
          have hus := s.used_le
          have HAL := alloc_any wr b s hs htab
          have hgb : ∀ i, i = b → w.heap.size ≤ i := fun i hi => by omega
          have hsn : (s.n : Int) = (n : Int) := by rw [hn]
          clear hz hcz
          by_cases hal : s.least < s.n
          · have e1 : s.allocE = 0 := by simp [Sp.allocE, hal]
            have e2 : s.allocN = s.least := by simp [Sp.allocN, hal]
            have e3 : s.allocS = s.turn s.least := by simp [Sp.allocS, hal]
            rw [e1, e2, e3] at HAL
            have hfa : s.has s.least = false := s.least_is.hit hal
            have hU1 : (s.used : Int) + 1 = ((s.turn s.least).used : Int) := by rw [Sp.used_more hal hfa]; rfl
            have hsa := s.has_turn s.least
            have hn1 : (s.turn s.least).n = n := hn
            clear e1 e2 e3
            have han : s.least < n := by omega
            have hka : s.least < 65536 := by omega
            generalize s.least = a at HAL hfa hU1 hsa hn1 hal han hka
            obtain ⟨s1, hs1⟩ : ∃ s1, s1 = s.turn a := ⟨_, rfl⟩
            rw [← hs1] at HAL hU1 hsa hn1
            have haz : (a : Int) < (n : Int) := by omega
            have hh1 : s1.has a = true := by rw [hsa, if_pos rfl, hfa]; rfl
            have hrU := hr.cell (i := a) han
            rw [hfa] at hrU
            have HRr : Hid (RowU wr g n s.has) := hr
            have HBr : Hid (Below w.heap.size w wr) := hbl
            have HSA : Hid (∀ j, s1.has j = if j = a then true else s.has j) := fun j => by rw [hsa, hfa]; rfl
            have hus1 : s1.used ≤ n := by have := s1.used_le; omega
            clear hr hbl hs hsa hfa hs1
            by_cases hzn : z < 0
            · have hz1 : ¬ 0 ≤ z := by omega
              have hz1d : decide (0 ≤ z) = false := decide_eq_false hz1
              have hin : inB z s1.n = false := by simp [inB]; omega
              have hE : s1.freeE z = 91 := by simp [Sp.freeE, hin]
              have hS : s1.freeS z = s1 := by simp [Sp.freeS, hin]
              have HFR := fun W (h : SpaceAt W b s1) => free_any W b s1 h z
              simp only [hE, hS] at HFR
              obtain ⟨s2, hs2⟩ : ∃ s2, s2 = s1 := ⟨_, rfl⟩
              have hn2 : s2.n = n := by rw [hs2]; exact hn1
              have HS2H : Hid (s2 = s1) := hs2
              clear hs2
              have hus2 := s2.used_le
              have hU2 : (s1.used : Int) = (s2.used : Int) := by rw [HS2H.out]
              have hLf2 : ((s2.n - s2.used : Nat) : Int) = (n : Int) - (s2.used : Int) := by omega
              have hneU : ((s2.used : Int) != (s2.used : Int)) = false := by simp
              have hneL : (((n : Int) - (s2.used : Int)) != ((n : Int) - (s2.used : Int))) = false := by simp
              clear hin hE hS
              go_wp2_with (first
                | (go_at_call 22; refine HAL.mono ?_; rintro e w1 ⟨rfl, hs1', hk1⟩
                   have HS1 : Hid (SpaceAt w1 b s1) := hs1'
                   have HR1 : Hid (RowU w1 g n s.has) := HRr.out.kept hk1 (by omega)
                   have HB1 : Hid (Below w.heap.size w w1) := Kept.below HBr.out hk1 HBr.out.size hgb
                   have hcz1 : w1.cell? ⟨gL, off + k, none⟩ = some (.int .i64 z) := by rw [← hcell]; exact row_same (hk1.block gL (by have := HBr.out.size; omega) (by omega))
                   have hca1 : w1.cell? ⟨g, a, none⟩ = some (.bool false) := by rw [← hrU]; exact row_same (hk1.block g HRr.out.lt (by omega))
                   have hfa1 := HR1.out.open a
                   have hKa := setCell_kept (w := w1) (b := g) (i := a) (.bool true)
                   have HRB : Hid (RowU (w1.setCell ⟨g, a, none⟩ (.bool true)) g n s1.has) := HR1.out.set a true (fun j _ => HSA.out j)
                   have HSB : Hid (SpaceAt (w1.setCell ⟨g, a, none⟩ (.bool true)) b s1) := HS1.out.kept hKa (by omega)
                   have HBB : Hid (Below w.heap.size w (w1.setCell ⟨g, a, none⟩ (.bool true))) := Kept.below HB1.out hKa HB1.out.size (fun i hi => by omega)
                   have hczB : (w1.setCell ⟨g, a, none⟩ (.bool true)).cell? ⟨gL, off + k, none⟩ = some (.int .i64 z) := by rw [← hcz1]; exact row_same (hKa.block gL (by have := HB1.out.size; omega) (by omega))
                   clear hKa
                   clear hs1' hk1)
                | (go_at_call 23; refine (has_in w1 b s1 HS1.out a (by omega)).mono ?_; rw [hh1]; rintro e w' ⟨rfl, hw'⟩; obtain rfl := hw'.symm)
                | (go_at_call 24; refine (HFR _ HSB.out).mono ?_; rintro e w3 ⟨rfl, hs3, hk3⟩
                   have HS3 : Hid (SpaceAt w3 b s2) := (by rw [HS2H.out]; exact hs3)
                   have HR3 : Hid (RowU w3 g n s1.has) := HRB.out.kept hk3 (by omega)
                   have HB3 : Hid (Below w.heap.size w w3) := Kept.below HBB.out hk3 HBB.out.size hgb
                   have hcz3 : w3.cell? ⟨gL, off + k, none⟩ = some (.int .i64 z) := by rw [← hczB]; exact row_same (hk3.block gL (by have := HBB.out.size; omega) (by omega))
                   have HR4 : Hid (RowU w3 g n s2.has) := by rw [HS2H.out]; exact HR3.out
                   have HS4 : Hid (SpaceAt w3 b s2) := HS3.out
                   have HB4 : Hid (Below w.heap.size w w3) := HB3.out
                   clear hs3 hk3)
                | (go_at_call 16; refine (used_any _ b s2 HS4.out).mono ?_; rintro e w5 ⟨rfl, q5, hw5⟩
                   have HS5 : Hid (SpaceAt w5 b s2) := by rw [hw5]; exact ⟨HS4.out.cells, HS4.out.ok⟩
                   have HR5 : Hid (RowU w5 g n s2.has) := by rw [hw5]; exact ⟨HR4.out.row⟩
                   have HB5 : Hid (Below w.heap.size w w5) := by rw [hw5]; exact below_draws HB4.out q5
                   clear hw5)
                | (go_at_call 18; refine (left_any w5 b s2 HS5.out).mono ?_; rw [hLf2]; rintro e w6 ⟨rfl, q6, hw6⟩
                   have HS6 : Hid (SpaceAt w6 b s2) := by rw [hw6]; exact ⟨HS5.out.cells, HS5.out.ok⟩
                   have HR6 : Hid (RowU w6 g n s2.has) := by rw [hw6]; exact ⟨HR5.out.row⟩
                   have HB6 : Hid (Below w.heap.size w w6) := by rw [hw6]; exact below_draws HB5.out q6
                   clear hw6))
              exact ⟨⟨k + 1, s2, by omega, by go_num, by rw [HS2H.out], hn2, HR6.out, HS6.out, HB6.out⟩, by simp [intOf]; omega⟩
            · by_cases hzf2 : (n : Int) ≤ z
              · have hz1 : 0 ≤ z := by omega
                have hz2 : ¬ z < (n : Int) := by omega
                have hz1d : decide (0 ≤ z) = true := decide_eq_true hz1
                have hz2d : decide (z < (n : Int)) = false := decide_eq_false hz2
                have hin : inB z s1.n = false := by simp [inB]; omega
                have hE : s1.freeE z = 91 := by simp [Sp.freeE, hin]
                have hS : s1.freeS z = s1 := by simp [Sp.freeS, hin]
                have HFR := fun W (h : SpaceAt W b s1) => free_any W b s1 h z
                simp only [hE, hS] at HFR
                obtain ⟨s2, hs2⟩ : ∃ s2, s2 = s1 := ⟨_, rfl⟩
                have hn2 : s2.n = n := by rw [hs2]; exact hn1
                have HS2H : Hid (s2 = s1) := hs2
                clear hs2
                have hus2 := s2.used_le
                have hU2 : (s1.used : Int) = (s2.used : Int) := by rw [HS2H.out]
                have hLf2 : ((s2.n - s2.used : Nat) : Int) = (n : Int) - (s2.used : Int) := by omega
                have hneU : ((s2.used : Int) != (s2.used : Int)) = false := by simp
                have hneL : (((n : Int) - (s2.used : Int)) != ((n : Int) - (s2.used : Int))) = false := by simp
                clear hin hE hS
                go_wp2_with (first
                  | (go_at_call 22; refine HAL.mono ?_; rintro e w1 ⟨rfl, hs1', hk1⟩
                     have HS1 : Hid (SpaceAt w1 b s1) := hs1'
                     have HR1 : Hid (RowU w1 g n s.has) := HRr.out.kept hk1 (by omega)
                     have HB1 : Hid (Below w.heap.size w w1) := Kept.below HBr.out hk1 HBr.out.size hgb
                     have hcz1 : w1.cell? ⟨gL, off + k, none⟩ = some (.int .i64 z) := by rw [← hcell]; exact row_same (hk1.block gL (by have := HBr.out.size; omega) (by omega))
                     have hca1 : w1.cell? ⟨g, a, none⟩ = some (.bool false) := by rw [← hrU]; exact row_same (hk1.block g HRr.out.lt (by omega))
                     have hfa1 := HR1.out.open a
                     have hKa := setCell_kept (w := w1) (b := g) (i := a) (.bool true)
                     have HRB : Hid (RowU (w1.setCell ⟨g, a, none⟩ (.bool true)) g n s1.has) := HR1.out.set a true (fun j _ => HSA.out j)
                     have HSB : Hid (SpaceAt (w1.setCell ⟨g, a, none⟩ (.bool true)) b s1) := HS1.out.kept hKa (by omega)
                     have HBB : Hid (Below w.heap.size w (w1.setCell ⟨g, a, none⟩ (.bool true))) := Kept.below HB1.out hKa HB1.out.size (fun i hi => by omega)
                     have hczB : (w1.setCell ⟨g, a, none⟩ (.bool true)).cell? ⟨gL, off + k, none⟩ = some (.int .i64 z) := by rw [← hcz1]; exact row_same (hKa.block gL (by have := HB1.out.size; omega) (by omega))
                     clear hKa
                     clear hs1' hk1)
                  | (go_at_call 23; refine (has_in w1 b s1 HS1.out a (by omega)).mono ?_; rw [hh1]; rintro e w' ⟨rfl, hw'⟩; obtain rfl := hw'.symm)
                  | (go_at_call 24; refine (HFR _ HSB.out).mono ?_; rintro e w3 ⟨rfl, hs3, hk3⟩
                     have HS3 : Hid (SpaceAt w3 b s2) := (by rw [HS2H.out]; exact hs3)
                     have HR3 : Hid (RowU w3 g n s1.has) := HRB.out.kept hk3 (by omega)
                     have HB3 : Hid (Below w.heap.size w w3) := Kept.below HBB.out hk3 HBB.out.size hgb
                     have hcz3 : w3.cell? ⟨gL, off + k, none⟩ = some (.int .i64 z) := by rw [← hczB]; exact row_same (hk3.block gL (by have := HBB.out.size; omega) (by omega))
                     have HR4 : Hid (RowU w3 g n s2.has) := by rw [HS2H.out]; exact HR3.out
                     have HS4 : Hid (SpaceAt w3 b s2) := HS3.out
                     have HB4 : Hid (Below w.heap.size w w3) := HB3.out
                     clear hs3 hk3)
                  | (go_at_call 16; refine (used_any _ b s2 HS4.out).mono ?_; rintro e w5 ⟨rfl, q5, hw5⟩
                     have HS5 : Hid (SpaceAt w5 b s2) := by rw [hw5]; exact ⟨HS4.out.cells, HS4.out.ok⟩
                     have HR5 : Hid (RowU w5 g n s2.has) := by rw [hw5]; exact ⟨HR4.out.row⟩
                     have HB5 : Hid (Below w.heap.size w w5) := by rw [hw5]; exact below_draws HB4.out q5
                     clear hw5)
                  | (go_at_call 18; refine (left_any w5 b s2 HS5.out).mono ?_; rw [hLf2]; rintro e w6 ⟨rfl, q6, hw6⟩
                     have HS6 : Hid (SpaceAt w6 b s2) := by rw [hw6]; exact ⟨HS5.out.cells, HS5.out.ok⟩
                     have HR6 : Hid (RowU w6 g n s2.has) := by rw [hw6]; exact ⟨HR5.out.row⟩
                     have HB6 : Hid (Below w.heap.size w w6) := by rw [hw6]; exact below_draws HB5.out q6
                     clear hw6))
                exact ⟨⟨k + 1, s2, by omega, by go_num, by rw [HS2H.out], hn2, HR6.out, HS6.out, HB6.out⟩, by simp [intOf]; omega⟩
              · obtain ⟨m, rfl⟩ : ∃ m : Nat, z = m := ⟨z.toNat, by omega⟩
                have hmn : m < n := by omega
                by_cases hm : s1.has m = true
                · have hz1 : (0 : Int) ≤ (m : Int) := by omega
                  have hz2 : (m : Int) < (n : Int) := by omega
                  have hz1d : decide ((0 : Int) ≤ (m : Int)) = true := decide_eq_true hz1
                  have hz2d : decide ((m : Int) < (n : Int)) = true := decide_eq_true hz2
                  have hin : inB m s1.n = true := inB_nat (by omega)
                  have hE : s1.freeE (m : Int) = 0 := by simp [Sp.freeE, hin, hm]
                  have hS : s1.freeS (m : Int) = s1.turn m := by simp [Sp.freeS, hin, hm]
                  have HFR := fun W (h : SpaceAt W b s1) => free_any W b s1 h (m : Int)
                  simp only [hE, hS] at HFR
                  have hU2 : (s1.used : Int) - 1 = ((s1.turn m).used : Int) := by have := Sp.used_less (s := s1) (k := m) (by omega) hm; omega
                  have HS2H : Hid (∀ j, (s1.turn m).has j = if j = m then false else s1.has j) := fun j => by rw [Sp.has_turn, hm]; rfl
                  obtain ⟨s2, hs2⟩ : ∃ s2, s2 = s1.turn m := ⟨_, rfl⟩
                  have hn2 : s2.n = n := by rw [hs2]; exact hn1
                  rw [← hs2] at HFR hU2 HS2H
                  clear hs2
                  have hus2 := s2.used_le
                  have hLf2 : ((s2.n - s2.used : Nat) : Int) = (n : Int) - (s2.used : Int) := by omega
                  have hneU : ((s2.used : Int) != (s2.used : Int)) = false := by simp
                  have hneL : (((n : Int) - (s2.used : Int)) != ((n : Int) - (s2.used : Int))) = false := by simp
                  clear hin hE hS
                  go_wp2_with (first
                    | (go_at_call 22; refine HAL.mono ?_; rintro e w1 ⟨rfl, hs1', hk1⟩
                       have HS1 : Hid (SpaceAt w1 b s1) := hs1'
                       have HR1 : Hid (RowU w1 g n s.has) := HRr.out.kept hk1 (by omega)
                       have HB1 : Hid (Below w.heap.size w w1) := Kept.below HBr.out hk1 HBr.out.size hgb
                       have hcz1 : w1.cell? ⟨gL, off + k, none⟩ = some (.int .i64 (m : Int)) := by rw [← hcell]; exact row_same (hk1.block gL (by have := HBr.out.size; omega) (by omega))
                       have hca1 : w1.cell? ⟨g, a, none⟩ = some (.bool false) := by rw [← hrU]; exact row_same (hk1.block g HRr.out.lt (by omega))
                       have hfa1 := HR1.out.open a
                       have hKa := setCell_kept (w := w1) (b := g) (i := a) (.bool true)
                       have HRB : Hid (RowU (w1.setCell ⟨g, a, none⟩ (.bool true)) g n s1.has) := HR1.out.set a true (fun j _ => HSA.out j)
                       have HSB : Hid (SpaceAt (w1.setCell ⟨g, a, none⟩ (.bool true)) b s1) := HS1.out.kept hKa (by omega)
                       have HBB : Hid (Below w.heap.size w (w1.setCell ⟨g, a, none⟩ (.bool true))) := Kept.below HB1.out hKa HB1.out.size (fun i hi => by omega)
                       have hczB : (w1.setCell ⟨g, a, none⟩ (.bool true)).cell? ⟨gL, off + k, none⟩ = some (.int .i64 (m : Int)) := by rw [← hcz1]; exact row_same (hKa.block gL (by have := HB1.out.size; omega) (by omega))
                       clear hKa
                       clear hs1' hk1)
                    | (go_at_call 23; refine (has_in w1 b s1 HS1.out a (by omega)).mono ?_; rw [hh1]; rintro e w' ⟨rfl, hw'⟩; obtain rfl := hw'.symm)
                    | (go_at_call 24; refine (HFR _ HSB.out).mono ?_; rintro e w3 ⟨rfl, hs3, hk3⟩
                       have HS3 : Hid (SpaceAt w3 b s2) := hs3
                       have HR3 : Hid (RowU w3 g n s1.has) := HRB.out.kept hk3 (by omega)
                       have HB3 : Hid (Below w.heap.size w w3) := Kept.below HBB.out hk3 HBB.out.size hgb
                       have hcz3 : w3.cell? ⟨gL, off + k, none⟩ = some (.int .i64 (m : Int)) := by rw [← hczB]; exact row_same (hk3.block gL (by have := HBB.out.size; omega) (by omega))
                       have hcm3 : w3.cell? ⟨g, m, none⟩ = some (.bool true) := by rw [← hm]; exact HR3.out.cell (by omega)
                       have hfm3 := HR3.out.open m
                       have hKm := setCell_kept (w := w3) (b := g) (i := m) (.bool false)
                       have HR4 : Hid (RowU (w3.setCell ⟨g, m, none⟩ (.bool false)) g n s2.has) := HR3.out.set m false (fun j _ => HS2H.out j)
                       have HS4 : Hid (SpaceAt (w3.setCell ⟨g, m, none⟩ (.bool false)) b s2) := HS3.out.kept hKm (by omega)
                       have HB4 : Hid (Below w.heap.size w (w3.setCell ⟨g, m, none⟩ (.bool false))) := Kept.below HB3.out hKm HB3.out.size (fun i hi => by omega)
                       clear hKm
                       clear hs3 hk3)
                    | (go_at_call 16; refine (used_any _ b s2 HS4.out).mono ?_; rintro e w5 ⟨rfl, q5, hw5⟩
                       have HS5 : Hid (SpaceAt w5 b s2) := by rw [hw5]; exact ⟨HS4.out.cells, HS4.out.ok⟩
                       have HR5 : Hid (RowU w5 g n s2.has) := by rw [hw5]; exact ⟨HR4.out.row⟩
                       have HB5 : Hid (Below w.heap.size w w5) := by rw [hw5]; exact below_draws HB4.out q5
                       clear hw5)
                    | (go_at_call 18; refine (left_any w5 b s2 HS5.out).mono ?_; rw [hLf2]; rintro e w6 ⟨rfl, q6, hw6⟩
                       have HS6 : Hid (SpaceAt w6 b s2) := by rw [hw6]; exact ⟨HS5.out.cells, HS5.out.ok⟩
                       have HR6 : Hid (RowU w6 g n s2.has) := by rw [hw6]; exact ⟨HR5.out.row⟩
                       have HB6 : Hid (Below w.heap.size w w6) := by rw [hw6]; exact below_draws HB5.out q6
                       clear hw6))
                  exact ⟨⟨k + 1, s2, by omega, by go_num, rfl, hn2, HR6.out, HS6.out, HB6.out⟩, by simp [intOf]; omega⟩
                · replace hm : s1.has m = false := by simpa using hm
                  have hz1 : (0 : Int) ≤ (m : Int) := by omega
                  have hz2 : (m : Int) < (n : Int) := by omega
                  have hz1d : decide ((0 : Int) ≤ (m : Int)) = true := decide_eq_true hz1
                  have hz2d : decide ((m : Int) < (n : Int)) = true := decide_eq_true hz2
                  have hin : inB m s1.n = true := inB_nat (by omega)
                  have hE : s1.freeE (m : Int) = 92 := by simp [Sp.freeE, hin, hm]
                  have hS : s1.freeS (m : Int) = s1 := by simp [Sp.freeS, hin, hm]
                  have HFR := fun W (h : SpaceAt W b s1) => free_any W b s1 h (m : Int)
                  simp only [hE, hS] at HFR
                  obtain ⟨s2, hs2⟩ : ∃ s2, s2 = s1 := ⟨_, rfl⟩
                  have hn2 : s2.n = n := by rw [hs2]; exact hn1
                  have HS2H : Hid (s2 = s1) := hs2
                  clear hs2
                  have hus2 := s2.used_le
                  have hU2 : (s1.used : Int) = (s2.used : Int) := by rw [HS2H.out]
                  have hLf2 : ((s2.n - s2.used : Nat) : Int) = (n : Int) - (s2.used : Int) := by omega
                  have hneU : ((s2.used : Int) != (s2.used : Int)) = false := by simp
                  have hneL : (((n : Int) - (s2.used : Int)) != ((n : Int) - (s2.used : Int))) = false := by simp
                  clear hin hE hS
                  go_wp2_with (first
                    | (go_at_call 22; refine HAL.mono ?_; rintro e w1 ⟨rfl, hs1', hk1⟩
                       have HS1 : Hid (SpaceAt w1 b s1) := hs1'
                       have HR1 : Hid (RowU w1 g n s.has) := HRr.out.kept hk1 (by omega)
                       have HB1 : Hid (Below w.heap.size w w1) := Kept.below HBr.out hk1 HBr.out.size hgb
                       have hcz1 : w1.cell? ⟨gL, off + k, none⟩ = some (.int .i64 (m : Int)) := by rw [← hcell]; exact row_same (hk1.block gL (by have := HBr.out.size; omega) (by omega))
                       have hca1 : w1.cell? ⟨g, a, none⟩ = some (.bool false) := by rw [← hrU]; exact row_same (hk1.block g HRr.out.lt (by omega))
                       have hfa1 := HR1.out.open a
                       have hKa := setCell_kept (w := w1) (b := g) (i := a) (.bool true)
                       have HRB : Hid (RowU (w1.setCell ⟨g, a, none⟩ (.bool true)) g n s1.has) := HR1.out.set a true (fun j _ => HSA.out j)
                       have HSB : Hid (SpaceAt (w1.setCell ⟨g, a, none⟩ (.bool true)) b s1) := HS1.out.kept hKa (by omega)
                       have HBB : Hid (Below w.heap.size w (w1.setCell ⟨g, a, none⟩ (.bool true))) := Kept.below HB1.out hKa HB1.out.size (fun i hi => by omega)
                       have hczB : (w1.setCell ⟨g, a, none⟩ (.bool true)).cell? ⟨gL, off + k, none⟩ = some (.int .i64 (m : Int)) := by rw [← hcz1]; exact row_same (hKa.block gL (by have := HB1.out.size; omega) (by omega))
                       clear hKa
                       clear hs1' hk1)
                    | (go_at_call 23; refine (has_in w1 b s1 HS1.out a (by omega)).mono ?_; rw [hh1]; rintro e w' ⟨rfl, hw'⟩; obtain rfl := hw'.symm)
                    | (go_at_call 24; refine (HFR _ HSB.out).mono ?_; rintro e w3 ⟨rfl, hs3, hk3⟩
                       have HS3 : Hid (SpaceAt w3 b s2) := (by rw [HS2H.out]; exact hs3)
                       have HR3 : Hid (RowU w3 g n s1.has) := HRB.out.kept hk3 (by omega)
                       have HB3 : Hid (Below w.heap.size w w3) := Kept.below HBB.out hk3 HBB.out.size hgb
                       have hcz3 : w3.cell? ⟨gL, off + k, none⟩ = some (.int .i64 (m : Int)) := by rw [← hczB]; exact row_same (hk3.block gL (by have := HBB.out.size; omega) (by omega))
                       have HR4 : Hid (RowU w3 g n s2.has) := by rw [HS2H.out]; exact HR3.out
                       have HS4 : Hid (SpaceAt w3 b s2) := HS3.out
                       have HB4 : Hid (Below w.heap.size w w3) := HB3.out
                       have hcm3 : w3.cell? ⟨g, m, none⟩ = some (.bool false) := by rw [← hm]; exact HR3.out.cell (by omega)
                       clear hs3 hk3)
                    | (go_at_call 16; refine (used_any _ b s2 HS4.out).mono ?_; rintro e w5 ⟨rfl, q5, hw5⟩
                       have HS5 : Hid (SpaceAt w5 b s2) := by rw [hw5]; exact ⟨HS4.out.cells, HS4.out.ok⟩
                       have HR5 : Hid (RowU w5 g n s2.has) := by rw [hw5]; exact ⟨HR4.out.row⟩
                       have HB5 : Hid (Below w.heap.size w w5) := by rw [hw5]; exact below_draws HB4.out q5
                       clear hw5)
                    | (go_at_call 18; refine (left_any w5 b s2 HS5.out).mono ?_; rw [hLf2]; rintro e w6 ⟨rfl, q6, hw6⟩
                       have HS6 : Hid (SpaceAt w6 b s2) := by rw [hw6]; exact ⟨HS5.out.cells, HS5.out.ok⟩
                       have HR6 : Hid (RowU w6 g n s2.has) := by rw [hw6]; exact ⟨HR5.out.row⟩
                       have HB6 : Hid (Below w.heap.size w w6) := by rw [hw6]; exact below_draws HB5.out q6
                       clear hw6))
                  exact ⟨⟨k + 1, s2, by omega, by go_num, by rw [HS2H.out], hn2, HR6.out, HS6.out, HB6.out⟩, by simp [intOf]; omega⟩
          · have e1 : s.allocE = 2 := by simp [Sp.allocE, hal]
            have e2 : s.allocN = 0 := by simp [Sp.allocN, hal]
            have e3 : s.allocS = s := by simp [Sp.allocS, hal]
            rw [e1, e2, e3] at HAL
            have hfull : (s.used : Int) = (n : Int) := by rw [s.full hal, hn]
            have hne : ((s.used : Int) != (n : Int)) = false := by rw [hfull]; simp
            have HFU : Hid ((s.used : Int) = (n : Int)) := hfull
            clear e1 e2 e3 hfull
            obtain ⟨s1, hs1⟩ : ∃ s1, s1 = s := ⟨_, rfl⟩
            have hn1 : s1.n = n := by rw [hs1]; exact hn
            have HRr : Hid (RowU wr g n s.has) := hr
            have HBr : Hid (Below w.heap.size w wr) := hbl
            have hus1 : s1.used ≤ n := by have := s1.used_le; omega
            subst hs1
            clear hr hbl hs
            by_cases hzn : z < 0
            · have hz1 : ¬ 0 ≤ z := by omega
              have hz1d : decide (0 ≤ z) = false := decide_eq_false hz1
              have hin : inB z s1.n = false := by simp [inB]; omega
              have hE : s1.freeE z = 91 := by simp [Sp.freeE, hin]
              have hS : s1.freeS z = s1 := by simp [Sp.freeS, hin]
              have HFR := fun W (h : SpaceAt W b s1) => free_any W b s1 h z
              simp only [hE, hS] at HFR
              obtain ⟨s2, hs2⟩ : ∃ s2, s2 = s1 := ⟨_, rfl⟩
              have hn2 : s2.n = n := by rw [hs2]; exact hn1
              have HS2H : Hid (s2 = s1) := hs2
              clear hs2
              have hus2 := s2.used_le
              have hU2 : (s1.used : Int) = (s2.used : Int) := by rw [HS2H.out]
              have hLf2 : ((s2.n - s2.used : Nat) : Int) = (n : Int) - (s2.used : Int) := by omega
              have hneU : ((s2.used : Int) != (s2.used : Int)) = false := by simp
              have hneL : (((n : Int) - (s2.used : Int)) != ((n : Int) - (s2.used : Int))) = false := by simp
              clear hin hE hS
              go_wp2_with (first
                | (go_at_call 22; refine HAL.mono ?_; rintro e w1 ⟨rfl, hs1', hk1⟩
                   have HS1 : Hid (SpaceAt w1 b s1) := hs1'
                   have HR1 : Hid (RowU w1 g n s1.has) := HRr.out.kept hk1 (by omega)
                   have HB1 : Hid (Below w.heap.size w w1) := Kept.below HBr.out hk1 HBr.out.size hgb
                   have hcz1 : w1.cell? ⟨gL, off + k, none⟩ = some (.int .i64 z) := by rw [← hcell]; exact row_same (hk1.block gL (by have := HBr.out.size; omega) (by omega))
                   have HRB : Hid (RowU w1 g n s1.has) := HR1.out
                   have HSB : Hid (SpaceAt w1 b s1) := hs1'
                   have HBB : Hid (Below w.heap.size w w1) := HB1.out
                   have hczB := hcz1
                   clear hs1' hk1)
                | (go_at_call 24; refine (HFR _ HSB.out).mono ?_; rintro e w3 ⟨rfl, hs3, hk3⟩
                   have HS3 : Hid (SpaceAt w3 b s2) := (by rw [HS2H.out]; exact hs3)
                   have HR3 : Hid (RowU w3 g n s1.has) := HRB.out.kept hk3 (by omega)
                   have HB3 : Hid (Below w.heap.size w w3) := Kept.below HBB.out hk3 HBB.out.size hgb
                   have hcz3 : w3.cell? ⟨gL, off + k, none⟩ = some (.int .i64 z) := by rw [← hczB]; exact row_same (hk3.block gL (by have := HBB.out.size; omega) (by omega))
                   have HR4 : Hid (RowU w3 g n s2.has) := by rw [HS2H.out]; exact HR3.out
                   have HS4 : Hid (SpaceAt w3 b s2) := HS3.out
                   have HB4 : Hid (Below w.heap.size w w3) := HB3.out
                   clear hs3 hk3)
                | (go_at_call 16; refine (used_any _ b s2 HS4.out).mono ?_; rintro e w5 ⟨rfl, q5, hw5⟩
                   have HS5 : Hid (SpaceAt w5 b s2) := by rw [hw5]; exact ⟨HS4.out.cells, HS4.out.ok⟩
                   have HR5 : Hid (RowU w5 g n s2.has) := by rw [hw5]; exact ⟨HR4.out.row⟩
                   have HB5 : Hid (Below w.heap.size w w5) := by rw [hw5]; exact below_draws HB4.out q5
                   clear hw5)
                | (go_at_call 18; refine (left_any w5 b s2 HS5.out).mono ?_; rw [hLf2]; rintro e w6 ⟨rfl, q6, hw6⟩
                   have HS6 : Hid (SpaceAt w6 b s2) := by rw [hw6]; exact ⟨HS5.out.cells, HS5.out.ok⟩
                   have HR6 : Hid (RowU w6 g n s2.has) := by rw [hw6]; exact ⟨HR5.out.row⟩
                   have HB6 : Hid (Below w.heap.size w w6) := by rw [hw6]; exact below_draws HB5.out q6
                   clear hw6))
              exact ⟨⟨k + 1, s2, by omega, by go_num, by rw [HS2H.out], hn2, HR6.out, HS6.out, HB6.out⟩, by simp [intOf]; omega⟩
            · by_cases hzf2 : (n : Int) ≤ z
              · have hz1 : 0 ≤ z := by omega
                have hz2 : ¬ z < (n : Int) := by omega
                have hz1d : decide (0 ≤ z) = true := decide_eq_true hz1
                have hz2d : decide (z < (n : Int)) = false := decide_eq_false hz2
                have hin : inB z s1.n = false := by simp [inB]; omega
                have hE : s1.freeE z = 91 := by simp [Sp.freeE, hin]
                have hS : s1.freeS z = s1 := by simp [Sp.freeS, hin]
                have HFR := fun W (h : SpaceAt W b s1) => free_any W b s1 h z
                simp only [hE, hS] at HFR
                obtain ⟨s2, hs2⟩ : ∃ s2, s2 = s1 := ⟨_, rfl⟩
                have hn2 : s2.n = n := by rw [hs2]; exact hn1
                have HS2H : Hid (s2 = s1) := hs2
                clear hs2
                have hus2 := s2.used_le
                have hU2 : (s1.used : Int) = (s2.used : Int) := by rw [HS2H.out]
                have hLf2 : ((s2.n - s2.used : Nat) : Int) = (n : Int) - (s2.used : Int) := by omega
                have hneU : ((s2.used : Int) != (s2.used : Int)) = false := by simp
                have hneL : (((n : Int) - (s2.used : Int)) != ((n : Int) - (s2.used : Int))) = false := by simp
                clear hin hE hS
                go_wp2_with (first
                  | (go_at_call 22; refine HAL.mono ?_; rintro e w1 ⟨rfl, hs1', hk1⟩
                     have HS1 : Hid (SpaceAt w1 b s1) := hs1'
                     have HR1 : Hid (RowU w1 g n s1.has) := HRr.out.kept hk1 (by omega)
                     have HB1 : Hid (Below w.heap.size w w1) := Kept.below HBr.out hk1 HBr.out.size hgb
                     have hcz1 : w1.cell? ⟨gL, off + k, none⟩ = some (.int .i64 z) := by rw [← hcell]; exact row_same (hk1.block gL (by have := HBr.out.size; omega) (by omega))
                     have HRB : Hid (RowU w1 g n s1.has) := HR1.out
                     have HSB : Hid (SpaceAt w1 b s1) := hs1'
                     have HBB : Hid (Below w.heap.size w w1) := HB1.out
                     have hczB := hcz1
                     clear hs1' hk1)
                  | (go_at_call 24; refine (HFR _ HSB.out).mono ?_; rintro e w3 ⟨rfl, hs3, hk3⟩
                     have HS3 : Hid (SpaceAt w3 b s2) := (by rw [HS2H.out]; exact hs3)
                     have HR3 : Hid (RowU w3 g n s1.has) := HRB.out.kept hk3 (by omega)
                     have HB3 : Hid (Below w.heap.size w w3) := Kept.below HBB.out hk3 HBB.out.size hgb
                     have hcz3 : w3.cell? ⟨gL, off + k, none⟩ = some (.int .i64 z) := by rw [← hczB]; exact row_same (hk3.block gL (by have := HBB.out.size; omega) (by omega))
                     have HR4 : Hid (RowU w3 g n s2.has) := by rw [HS2H.out]; exact HR3.out
                     have HS4 : Hid (SpaceAt w3 b s2) := HS3.out
                     have HB4 : Hid (Below w.heap.size w w3) := HB3.out
                     clear hs3 hk3)
                  | (go_at_call 16; refine (used_any _ b s2 HS4.out).mono ?_; rintro e w5 ⟨rfl, q5, hw5⟩
                     have HS5 : Hid (SpaceAt w5 b s2) := by rw [hw5]; exact ⟨HS4.out.cells, HS4.out.ok⟩
                     have HR5 : Hid (RowU w5 g n s2.has) := by rw [hw5]; exact ⟨HR4.out.row⟩
                     have HB5 : Hid (Below w.heap.size w w5) := by rw [hw5]; exact below_draws HB4.out q5
                     clear hw5)
                  | (go_at_call 18; refine (left_any w5 b s2 HS5.out).mono ?_; rw [hLf2]; rintro e w6 ⟨rfl, q6, hw6⟩
                     have HS6 : Hid (SpaceAt w6 b s2) := by rw [hw6]; exact ⟨HS5.out.cells, HS5.out.ok⟩
                     have HR6 : Hid (RowU w6 g n s2.has) := by rw [hw6]; exact ⟨HR5.out.row⟩
                     have HB6 : Hid (Below w.heap.size w w6) := by rw [hw6]; exact below_draws HB5.out q6
                     clear hw6))
                exact ⟨⟨k + 1, s2, by omega, by go_num, by rw [HS2H.out], hn2, HR6.out, HS6.out, HB6.out⟩, by simp [intOf]; omega⟩
              · obtain ⟨m, rfl⟩ : ∃ m : Nat, z = m := ⟨z.toNat, by omega⟩
                have hmn : m < n := by omega
                by_cases hm : s1.has m = true
                · have hz1 : (0 : Int) ≤ (m : Int) := by omega
                  have hz2 : (m : Int) < (n : Int) := by omega
                  have hz1d : decide ((0 : Int) ≤ (m : Int)) = true := decide_eq_true hz1
                  have hz2d : decide ((m : Int) < (n : Int)) = true := decide_eq_true hz2
                  have hin : inB m s1.n = true := inB_nat (by omega)
                  have hE : s1.freeE (m : Int) = 0 := by simp [Sp.freeE, hin, hm]
                  have hS : s1.freeS (m : Int) = s1.turn m := by simp [Sp.freeS, hin, hm]
                  have HFR := fun W (h : SpaceAt W b s1) => free_any W b s1 h (m : Int)
                  simp only [hE, hS] at HFR
                  have hU2 : (s1.used : Int) - 1 = ((s1.turn m).used : Int) := by have := Sp.used_less (s := s1) (k := m) (by omega) hm; omega
                  have HS2H : Hid (∀ j, (s1.turn m).has j = if j = m then false else s1.has j) := fun j => by rw [Sp.has_turn, hm]; rfl
                  obtain ⟨s2, hs2⟩ : ∃ s2, s2 = s1.turn m := ⟨_, rfl⟩
                  have hn2 : s2.n = n := by rw [hs2]; exact hn1
                  rw [← hs2] at HFR hU2 HS2H
                  clear hs2
                  have hus2 := s2.used_le
                  have hLf2 : ((s2.n - s2.used : Nat) : Int) = (n : Int) - (s2.used : Int) := by omega
                  have hneU : ((s2.used : Int) != (s2.used : Int)) = false := by simp
                  have hneL : (((n : Int) - (s2.used : Int)) != ((n : Int) - (s2.used : Int))) = false := by simp
                  clear hin hE hS
                  go_wp2_with (first
                    | (go_at_call 22; refine HAL.mono ?_; rintro e w1 ⟨rfl, hs1', hk1⟩
                       have HS1 : Hid (SpaceAt w1 b s1) := hs1'
                       have HR1 : Hid (RowU w1 g n s1.has) := HRr.out.kept hk1 (by omega)
                       have HB1 : Hid (Below w.heap.size w w1) := Kept.below HBr.out hk1 HBr.out.size hgb
                       have hcz1 : w1.cell? ⟨gL, off + k, none⟩ = some (.int .i64 (m : Int)) := by rw [← hcell]; exact row_same (hk1.block gL (by have := HBr.out.size; omega) (by omega))
                       have HRB : Hid (RowU w1 g n s1.has) := HR1.out
                       have HSB : Hid (SpaceAt w1 b s1) := hs1'
                       have HBB : Hid (Below w.heap.size w w1) := HB1.out
                       have hczB := hcz1
                       clear hs1' hk1)
                    | (go_at_call 24; refine (HFR _ HSB.out).mono ?_; rintro e w3 ⟨rfl, hs3, hk3⟩
                       have HS3 : Hid (SpaceAt w3 b s2) := hs3
                       have HR3 : Hid (RowU w3 g n s1.has) := HRB.out.kept hk3 (by omega)
                       have HB3 : Hid (Below w.heap.size w w3) := Kept.below HBB.out hk3 HBB.out.size hgb
                       have hcz3 : w3.cell? ⟨gL, off + k, none⟩ = some (.int .i64 (m : Int)) := by rw [← hczB]; exact row_same (hk3.block gL (by have := HBB.out.size; omega) (by omega))
                       have hcm3 : w3.cell? ⟨g, m, none⟩ = some (.bool true) := by rw [← hm]; exact HR3.out.cell (by omega)
                       have hfm3 := HR3.out.open m
                       have hKm := setCell_kept (w := w3) (b := g) (i := m) (.bool false)
                       have HR4 : Hid (RowU (w3.setCell ⟨g, m, none⟩ (.bool false)) g n s2.has) := HR3.out.set m false (fun j _ => HS2H.out j)
                       have HS4 : Hid (SpaceAt (w3.setCell ⟨g, m, none⟩ (.bool false)) b s2) := HS3.out.kept hKm (by omega)
                       have HB4 : Hid (Below w.heap.size w (w3.setCell ⟨g, m, none⟩ (.bool false))) := Kept.below HB3.out hKm HB3.out.size (fun i hi => by omega)
                       clear hKm
                       clear hs3 hk3)
                    | (go_at_call 16; refine (used_any _ b s2 HS4.out).mono ?_; rintro e w5 ⟨rfl, q5, hw5⟩
                       have HS5 : Hid (SpaceAt w5 b s2) := by rw [hw5]; exact ⟨HS4.out.cells, HS4.out.ok⟩
                       have HR5 : Hid (RowU w5 g n s2.has) := by rw [hw5]; exact ⟨HR4.out.row⟩
                       have HB5 : Hid (Below w.heap.size w w5) := by rw [hw5]; exact below_draws HB4.out q5
                       clear hw5)
                    | (go_at_call 18; refine (left_any w5 b s2 HS5.out).mono ?_; rw [hLf2]; rintro e w6 ⟨rfl, q6, hw6⟩
                       have HS6 : Hid (SpaceAt w6 b s2) := by rw [hw6]; exact ⟨HS5.out.cells, HS5.out.ok⟩
                       have HR6 : Hid (RowU w6 g n s2.has) := by rw [hw6]; exact ⟨HR5.out.row⟩
                       have HB6 : Hid (Below w.heap.size w w6) := by rw [hw6]; exact below_draws HB5.out q6
                       clear hw6))
                  exact ⟨⟨k + 1, s2, by omega, by go_num, rfl, hn2, HR6.out, HS6.out, HB6.out⟩, by simp [intOf]; omega⟩
                · replace hm : s1.has m = false := by simpa using hm
                  have hz1 : (0 : Int) ≤ (m : Int) := by omega
                  have hz2 : (m : Int) < (n : Int) := by omega
                  have hz1d : decide ((0 : Int) ≤ (m : Int)) = true := decide_eq_true hz1
                  have hz2d : decide ((m : Int) < (n : Int)) = true := decide_eq_true hz2
                  have hin : inB m s1.n = true := inB_nat (by omega)
                  have hE : s1.freeE (m : Int) = 92 := by simp [Sp.freeE, hin, hm]
                  have hS : s1.freeS (m : Int) = s1 := by simp [Sp.freeS, hin, hm]
                  have HFR := fun W (h : SpaceAt W b s1) => free_any W b s1 h (m : Int)
                  simp only [hE, hS] at HFR
                  obtain ⟨s2, hs2⟩ : ∃ s2, s2 = s1 := ⟨_, rfl⟩
                  have hn2 : s2.n = n := by rw [hs2]; exact hn1
                  have HS2H : Hid (s2 = s1) := hs2
                  clear hs2
                  have hus2 := s2.used_le
                  have hU2 : (s1.used : Int) = (s2.used : Int) := by rw [HS2H.out]
                  have hLf2 : ((s2.n - s2.used : Nat) : Int) = (n : Int) - (s2.used : Int) := by omega
                  have hneU : ((s2.used : Int) != (s2.used : Int)) = false := by simp
                  have hneL : (((n : Int) - (s2.used : Int)) != ((n : Int) - (s2.used : Int))) = false := by simp
                  clear hin hE hS
                  go_wp2_with (first
                    | (go_at_call 22; refine HAL.mono ?_; rintro e w1 ⟨rfl, hs1', hk1⟩
                       have HS1 : Hid (SpaceAt w1 b s1) := hs1'
                       have HR1 : Hid (RowU w1 g n s1.has) := HRr.out.kept hk1 (by omega)
                       have HB1 : Hid (Below w.heap.size w w1) := Kept.below HBr.out hk1 HBr.out.size hgb
                       have hcz1 : w1.cell? ⟨gL, off + k, none⟩ = some (.int .i64 (m : Int)) := by rw [← hcell]; exact row_same (hk1.block gL (by have := HBr.out.size; omega) (by omega))
                       have HRB : Hid (RowU w1 g n s1.has) := HR1.out
                       have HSB : Hid (SpaceAt w1 b s1) := hs1'
                       have HBB : Hid (Below w.heap.size w w1) := HB1.out
                       have hczB := hcz1
                       clear hs1' hk1)
                    | (go_at_call 24; refine (HFR _ HSB.out).mono ?_; rintro e w3 ⟨rfl, hs3, hk3⟩
                       have HS3 : Hid (SpaceAt w3 b s2) := (by rw [HS2H.out]; exact hs3)
                       have HR3 : Hid (RowU w3 g n s1.has) := HRB.out.kept hk3 (by omega)
                       have HB3 : Hid (Below w.heap.size w w3) := Kept.below HBB.out hk3 HBB.out.size hgb
                       have hcz3 : w3.cell? ⟨gL, off + k, none⟩ = some (.int .i64 (m : Int)) := by rw [← hczB]; exact row_same (hk3.block gL (by have := HBB.out.size; omega) (by omega))
                       have HR4 : Hid (RowU w3 g n s2.has) := by rw [HS2H.out]; exact HR3.out
                       have HS4 : Hid (SpaceAt w3 b s2) := HS3.out
                       have HB4 : Hid (Below w.heap.size w w3) := HB3.out
                       have hcm3 : w3.cell? ⟨g, m, none⟩ = some (.bool false) := by rw [← hm]; exact HR3.out.cell (by omega)
                       clear hs3 hk3)
                    | (go_at_call 16; refine (used_any _ b s2 HS4.out).mono ?_; rintro e w5 ⟨rfl, q5, hw5⟩
                       have HS5 : Hid (SpaceAt w5 b s2) := by rw [hw5]; exact ⟨HS4.out.cells, HS4.out.ok⟩
                       have HR5 : Hid (RowU w5 g n s2.has) := by rw [hw5]; exact ⟨HR4.out.row⟩
                       have HB5 : Hid (Below w.heap.size w w5) := by rw [hw5]; exact below_draws HB4.out q5
                       clear hw5)
                    | (go_at_call 18; refine (left_any w5 b s2 HS5.out).mono ?_; rw [hLf2]; rintro e w6 ⟨rfl, q6, hw6⟩
                       have HS6 : Hid (SpaceAt w6 b s2) := by rw [hw6]; exact ⟨HS5.out.cells, HS5.out.ok⟩
                       have HR6 : Hid (RowU w6 g n s2.has) := by rw [hw6]; exact ⟨HR5.out.row⟩
                       have HB6 : Hid (Below w.heap.size w w6) := by rw [hw6]; exact below_draws HB5.out q6
                       clear hw6))
                  exact ⟨⟨k + 1, s2, by omega, by go_num, by rw [HS2H.out], hn2, HR6.out, HS6.out, HB6.out⟩, by simp [intOf]; omega⟩
        · have hltz : ¬ (k : Int) < (L.length : Int) := by omega
          have HBr : Hid (Below w.heap.size w wr) := hbl
          clear hr hs hbl
          go_wp2
          go_ret
          exact ⟨rfl, HBr.out⟩
theorem spaceOnce_any (w : World) (ht : Tab w) (blocks : Int) (_ : (Lit.int .i64 blocks).wf = true) (used : Int) (_ : (Lit.int .i64 used).wf = true) (v : Value) (L : List Int) (hL : IntsIn w v L) :
    Calls Tryd.prog 6 #[.int .i64 blocks, .int .i64 used, v] w fun e w' => e = .returned (.bool true) ∧ Below w.heap.size w w' := by
  cases h : newOk blocks used with
  | false => exact once_bad w ht blocks used v h
  | true =>
    simp only [newOk, Bool.and_eq_true, decide_eq_true_eq] at h
    obtain ⟨n, rfl⟩ : ∃ n : Nat, blocks = n := ⟨blocks.toNat, by omega⟩
    obtain ⟨u, rfl⟩ : ∃ u : Nat, used = u := ⟨used.toNat, by omega⟩
    exact once_ok w ht n u (by omega) (by omega) (by omega) v L hL
end Go.Proofs.YtlokplnapaghhaaDoor
