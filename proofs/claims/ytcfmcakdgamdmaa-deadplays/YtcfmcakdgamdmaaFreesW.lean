/- frees: the walk. -/
import Derived.Test.YtcfmcakdgamdmaaFrees
namespace Go.Proofs.Ytcfmcakdgamdmaa
open Go.RowKit

theorem at_at {α : Type} {f : Nat → α} {i : Nat} {a b : α} : at_ (at_ f i a) i b = at_ f i b := by
  funext k
  unfold at_
  split <;> rfl
theorem one_u64 (w : World) (n : Int) : U64At (w.alloc (.cells #[.int .u64 n] 32)) (.slice (some ⟨w.heap.size, 0, none⟩) 1 1) [n] :=
  ⟨⟨_, 1, rfl, Nat.le_refl _, (fun h => by cases h), fun j u hj => ⟨w.heap.size, 0, rfl, (by simp), (by
    rw [row_cell (heap_alloc_last w _), Nat.zero_add, ← Array.getElem?_toList]
    exact hj)⟩⟩, rfl⟩
/-- Of lent numbers, k are written over. -/
def lentN (S : List Int) (k : Nat) : List Int := List.replicate k 3 ++ (S ++ [77]).drop k
theorem lentN_length (S : List Int) (k : Nat) (hk : k ≤ S.length) : (lentN S k).length = S.length + 1 := by simp [lentN]; omega
theorem lentN_at (S : List Int) (k : Nat) (hk : k < S.length) : (lentN S k)[k]? = S[k]? := by
  unfold lentN
  rw [List.getElem?_append_right (by simp), List.length_replicate, Nat.sub_self, List.getElem?_drop, Nat.add_zero, List.getElem?_append_left hk]
theorem lentN_last (S : List Int) (k : Nat) (hk : k ≤ S.length) : (lentN S k)[S.length]? = some 77 := by
  unfold lentN
  rw [List.getElem?_append_right (by simpa using hk), List.length_replicate, List.getElem?_drop, show k + (S.length - k) = S.length by omega, List.getElem?_append_right (Nat.le_refl _), Nat.sub_self]
  rfl
theorem lentN_next (S : List Int) (k : Nat) (hk : k < S.length) : (lentN S k).set k 3 = lentN S (k + 1) := by
  unfold lentN
  have hd : k < (S ++ [77]).length := by simp; omega
  rw [List.set_append_right _ _ (by simp), List.length_replicate, Nat.sub_self, List.drop_eq_getElem_cons hd, List.set_cons_zero, List.replicate_succ', List.append_assoc]
  rfl
theorem own_stayI {w w' : World} {base : Nat} {v : Value} {L : List Int} (h : NewI base w v L) (hs : Stay w w') : NewI base w' v L := own_stay h hs (by decide) (by decide) (by decide) (by decide) (by decide) (by decide) (by decide) (by decide)
theorem own_stayU {w w' : World} {base n : Nat} {v : Value} {xs : List Value} (h : w.ownsRow base 32 1 v n xs) (hs : Stay w w') : w'.ownsRow base 32 1 v n xs := own_stay h hs (by decide) (by decide) (by decide) (by decide) (by decide) (by decide) (by decide) (by decide)
theorem own_setU {w : World} {base e n k g c : Nat} {xs : List Value} {j : Nat} {u : Value} (ho : w.ownsRow base e k (.slice (some ⟨g, 0, none⟩) n c) n xs) : (w.setCell ⟨g, j, none⟩ u).ownsRow base e k (.slice (some ⟨g, 0, none⟩) n c) n (xs.set j u) := by
  obtain ⟨hl, h⟩ := ho
  refine ⟨by simpa using hl, ?_⟩
  rcases h with ⟨h, _⟩ | ⟨g', cap, cur, e1, hb, hg, hc, hm, hs, hx⟩
  · cases h
  · cases e1
    refine .inr ⟨g, c, cur.setIfInBounds j u, rfl, hb, heap_set_same u hg, hc, hm, by simpa using hs, ?_⟩
    rw [← hx]
    simp [List.take_set]
theorem Wst.farU {B m : Nat} {w w' : World} {W g : Nat} {cs rs : Nat → Nat} {va vb : Nat → Value} {LA LB : Nat → List Lf} {P Q : List (Value × List Int)} {X Y : List (Value × List Lf)} (h : Wst B m w W cs rs va vb LA LB P Q X Y) (hk : Kept (fun j => j = g) w w') (hg : ∀ j, j = g → ∃ cur, w.heap[j]? = some (.cells cur 32 (0, 0))) : Wst B m w' W cs rs va vb LA LB P Q X Y := by
  obtain ⟨vl, vr, vp, vq, vx, vy, n, h1, h2⟩ := h
  refine ⟨vl, vr, vp, vq, vx, vy, n, h1.far hk fun k e _ => ?_, h2.far hk fun k e _ => ?_⟩
  · obtain ⟨cur, hc⟩ := hg k e
    exact ⟨cur, _, hc, by decide, by decide, by decide, by decide, by decide⟩
  · obtain ⟨cur, hc⟩ := hg k e
    exact ⟨cur, _, hc, by decide, by decide, by decide, by decide⟩
/-- The lent row. -/
structure OwnU (base : Nat) (w : World) (g c : Nat) (S : List Int) (k : Nat) : Prop where
  row : w.ownsRow base 32 1 (.slice (some ⟨g, 0, none⟩) (S.length + 1) c) (S.length + 1) ((lentN S k).map encU)
theorem OwnU.cell {base : Nat} {w : World} {g c : Nat} {S : List Int} {k j : Nat} {n : Int} (h : OwnU base w g c S k) (hj : (lentN S k)[j]? = some n) : w.cell? ⟨g, j, none⟩ = some (.int .u64 n) := by
  rcases own_row h.row with ⟨e, _⟩ | ⟨g', c', e, _, _, hc⟩
  · cases e
  · cases e
    exact hc j _ (by rw [List.getElem?_map, hj]; rfl)
theorem OwnU.open {base : Nat} {w : World} {g c : Nat} {S : List Int} {k : Nat} (h : OwnU base w g c S k) (j : Nat) : w.frozen? ⟨g, j, none⟩ = false := by
  obtain ⟨_, _, cur, hc⟩ := own_type h.row g rfl
  exact row_frozen hc j
theorem OwnU.next {base : Nat} {w : World} {g c : Nat} {S : List Int} {k : Nat} (h : OwnU base w g c S k) (hk : k < S.length) : OwnU base (w.setCell ⟨g, k, none⟩ (.int .u64 3)) g c S (k + 1) := by
  have hset := own_setU (j := k) (u := .int .u64 3) h.row
  have e : ((lentN S k).map encU).set k (.int .u64 3) = (lentN S (k + 1)).map encU := by rw [← lentN_next S k hk, List.map_set]; rfl
  rw [e] at hset
  exact ⟨hset⟩
theorem OwnU.draws {base : Nat} {w : World} {g c : Nat} {S : List Int} {k : Nat} (h : OwnU base w g c S k) (q : Nat) : OwnU base (w.drewN q) g c S k := ⟨own_here h.row (below_draws (Below.refl _ _) q)⟩
theorem OwnU.stay {base : Nat} {w w' : World} {g c : Nat} {S : List Int} {k : Nat} (h : OwnU base w g c S k) (hs : Stay w w') : OwnU base w' g c S k := ⟨own_stayU h.row hs⟩
set_option maxHeartbeats 3200000 in
set_option maxRecDepth 100000 in
theorem frees_any {B m : Nat} {w : World} {W i : Nat} {cs rs : Nat → Nat} {va vb : Nat → Value} {LS : Nat → List Lf} {P Q : List (Value × List Int)} {X Y : List (Value × List Lf)} {sv : Value} {S : List Int} (h : Wst B m w W cs rs va vb LS LS P Q X Y) (hi : i < m) (hS : SnAt B w sv S) (hsm : P.map (·.2) = Q.map (·.2)) (hP : P.length + 2 ≤ 4398046511104) (hL : (LS i).length ≤ 5864062014805) :
    Calls Try.prog 24 #[ptr W, ptr (cs i), ptr (rs i), sv] w fun r w' => r = .returned (.bool true) ∧ ∃ va' vb' P' Q', Wst B m w' W cs rs va' vb' (at_ LS i (leftL (LS i) S)) (at_ LS i (leftL (LS i) S)) P' Q' X Y ∧ P'.map (·.2) = Q'.map (·.2) ∧ P'.length = P.length + 2 ∧ (∀ p ∈ P', p ∈ P ∨ p.2.length ≤ (LS i).length) ∧ Below B w w' := by
  have HW : Hid (Wst B m w W cs rs va vb LS LS P Q X Y) := h
  have HS : Hid _ := hS
  have HI : Hid (i < m) := hi
  have HSM : Hid _ := hsm
  have HLN : Hid (P.length + 2 ≤ 4398046511104 ∧ (LS i).length ≤ 5864062014805 ∧ S.length * 8 ≤ 140737488351232) := ⟨hP, hL, hS.short⟩
  have hBw := h.hB
  obtain ⟨sa, sc, rfl, _⟩ := hS.is
  clear h hS hi hsm hP hL
  go_enter Try.func24, Try.ntmps24
  have HE0 : Hid ((w.alloc (.cells #[] 32)).ownsRow w.heap.size 32 1 (.slice (some ⟨w.heap.size, 0, none⟩) 0 0) 0 []) := World.ownsRow_made w #[] 0 (Nat.le_refl _) (Nat.zero_le _) rfl
  have HS0 : Hid (U64At (w.alloc (.cells #[] 32)) (.slice sa S.length sc) S) := (HS.out.at hBw).here (below_new _ _)
  go_upto_region 2 with (first
    | (at_builtin
       refine wpList_append_u64s rfl _ _ rfl w.heap.size v1 S rfl HO1.out (.slice (some ⟨w1.heap.size, 0, none⟩) 1 1) [77] rfl (one_u64 w1 77) (by have := HLN.out.2.2; simp only [List.length_cons, List.length_nil]; omega) (Nat.le_trans HB1.out.size (below_new w1 _).size) ?_
       intro v2 w2 hv2 hg2 hk2
       have HV2 : Hid (NewU w.heap.size w2 v2 (S ++ [77])) := hv2
       have HB2 : Hid (Below w.heap.size w w2) := (HB1.out.trans ((below_new w1 _).mono HB1.out.size)).trans hk2.low
       clear hv2 hg2 hk2)
    | (at_builtin
       refine wpList_append_u64s rfl _ _ rfl w.heap.size (.slice (some ⟨w.heap.size, 0, none⟩) 0 0) [] rfl HE0.out (.slice sa S.length sc) S rfl HS0.out (by have := HLN.out.2.2; simp only [List.length_nil]; omega) (below_new w _).size ?_
       intro v1 w1 hv1 hg1 hk1
       have HV1 : Hid (NewU w.heap.size w1 v1 S) := hv1
       have HB1 : Hid (Below w.heap.size w w1) := (below_new w _).trans hk1.low
       have HO1 : Hid (NewU w.heap.size (w1.alloc (.cells #[.int .u64 77] 32)) v1 S) := own_here hv1 (below_new _ _)
       clear hv1 hg1 hk1))
  obtain ⟨g2, c2, e2⟩ : ∃ g c, v2 = .slice (some ⟨g, 0, none⟩) (S.length + 1) c := by
    rcases own_row HV2.out with ⟨_, e⟩ | ⟨g, c, e, _⟩
    · simp at e
    · exact ⟨g, c, by rw [e]; simp⟩
  subst e2
  have hcap : S.length + 1 ≤ c2 := by
    obtain ⟨⟨a', c', e, h1, _⟩, _⟩ := RowAt.own HV2.out
    simp only [Value.slice.injEq] at e
    have := e.2.2
    simp at h1
    omega
  have hsl : (S.length : Int) ≤ 17592186044416 := by have := HLN.out.2.2; omega
  have hcz : (S.length : Int) ≤ (c2 : Int) := by omega
  have HU2 : Hid (U64At w2 (.slice (some ⟨g2, 0, none⟩) S.length c2) S) := by
    obtain ⟨⟨a', c', e, h1, h2, h3⟩, _⟩ := RowAt.own HV2.out
    refine ⟨⟨_, c2, rfl, by omega, (fun h => by cases h), fun j u hj => ?_⟩, by simp⟩
    obtain ⟨g, off, e1, e2, e3⟩ := h3 j u (by rw [List.map_append, List.getElem?_append_left (List.getElem?_eq_some_iff.1 hj).1]; exact hj)
    simp only [Value.slice.injEq] at e
    rw [← e.1] at e1
    exact ⟨g, off, e1, e2, e3⟩
  have HW2 : Hid (Wst B m w2 W cs rs va vb LS LS P Q X Y) := HW.out.below HB2.out
  have HF : Hid (Calls Try.prog 17 #[ptr (cs i), .slice (some ⟨g2, 0, none⟩) S.length c2] w2 fun r w' => ∃ vp v', r = .returned vp ∧ NewI w2.heap.size w' vp (goneL (LS i) S) ∧ Wst B m w' W cs rs (at_ va i v') vb (at_ LS i (leftL (LS i) S)) LS P Q X Y ∧ Stay w2 w' ∧ Below B w2 w' ∧ Kept (Its (cs i) (va i)) w2 w') := HW2.out.free_l HI.out HU2.out (by have := HLN.out.2.2; omega)
  clear HE0 HS0 HV1 HB1 HO1 HU2
  go_wp2_with fail
  refine Calls.mono HF.out ?_
  rintro r w3 ⟨xp, v3, rfl, hx3, hw3, hs3, hb3, _⟩
  obtain ⟨xa, xn, xc, ex⟩ : ∃ a n c, xp = Value.slice a n c := (by obtain ⟨a, c, e⟩ := own_slice hx3; exact ⟨_, _, _, e⟩)
  subst ex
  have HX3 : Hid (NewI w2.heap.size w3 (.slice xa xn xc) (goneL (LS i) S)) := hx3
  have HW3 : Hid (Wst B m w3 W cs rs (at_ va i v3) vb (at_ LS i (leftL (LS i) S)) LS P Q X Y) := hw3
  have HST3 : Hid (Stay w2 w3) := hs3
  have HB3 : Hid (Below B w w3) := (HB2.out.mono hBw).trans hb3
  have HO3 : Hid (OwnU w.heap.size w3 g2 c2 S 0) := OwnU.stay ⟨by
    have h77 : (S ++ [(77 : Int)]).length = S.length + 1 := by simp
    have h := HV2.out
    show World.ownsRow _ _ _ _ _ (S.length + 1) _
    rw [← h77]
    rw [← h77] at h
    exact h⟩ hs3
  have HSZ : Hid (w.heap.size ≤ w2.heap.size ∧ w2.heap.size ≤ w3.heap.size ∧ g2 < w2.heap.size ∧ w.heap.size ≤ g2) := ⟨HB2.out.size, hs3.size, (own_type HV2.out g2 rfl).1, (own_type HV2.out g2 rfl).2.1⟩
  clear hx3 hw3 hs3 hb3 HF HW2 HV2
  go_wp2_with fail
  go_loopw [11] (fun s wr => ∃ k : Nat, k ≤ S.length ∧ s = .int .i64 k ∧ OwnU w.heap.size wr g2 c2 S k ∧ Kept (fun j => j = g2) w3 wr) (fun s _ => S.length - (intOf s).toNat)
  case atStart => exact ⟨0, Nat.zero_le _, rfl, HO3.out, Kept.refl _ _⟩
  case round =>
    obtain ⟨k, hk, rfl, ho, hkk⟩ := hrel
    have HO : Hid (OwnU w.heap.size wr g2 c2 S k) := ho
    have HKK : Hid (Kept (fun j => j = g2) w3 wr) := hkk
    have HBR : Hid (Below B w wr) := Kept.below HB3.out hkk (by have := HSZ.out; omega) (fun j e => by have := HSZ.out; omega)
    by_cases hlt : k < S.length
    · have hltz : (k : Int) < (S.length : Int) := by omega
      obtain ⟨s, hs⟩ : ∃ s, S[k]? = some s := ⟨_, List.getElem?_eq_getElem hlt⟩
      obtain ⟨a4, c4, e4, h41, h42, h43⟩ := (HS.out.below HBR.out).is
      cases e4
      obtain ⟨g4, o4, e4, hg4, m4⟩ := h43 k (encU s) (by rw [List.getElem?_map, hs]; rfl)
      subst e4
      have m4' : wr.cell? ⟨g4, o4 + k, none⟩ = some (.int .u64 s) := m4
      have hcell : wr.cell? ⟨g2, k, none⟩ = some (.int .u64 s) := ho.cell (by rw [lentN_at S k hlt]; exact hs)
      have hfz := ho.open k
      have n1 : ¬ g4 = g2 := fun e => by have := HSZ.out; omega
      have n2 : ¬ g2 = g4 := fun e => n1 e.symm
      clear ho hkk m4 h41 h42 h43 hs
      go_wp2_with fail
      go_quiet (fail)
      go_wp2_with fail
      exact ⟨⟨k + 1, by omega, by go_num, (HO.out.draws nq).next hlt, (HKK.out.draws nq).trans (setCell_kept _) (fun _ _ e => e)⟩, by simp [intOf]; omega⟩
    · have hltz : ¬ (k : Int) < (S.length : Int) := by omega
      have hke : k = S.length := by omega
      have HOE : Hid (OwnU w.heap.size wr g2 c2 S S.length) := by rw [hke] at ho; exact ho
      have HW4 : Hid (Wst B m wr W cs rs (at_ va i v3) vb (at_ LS i (leftL (LS i) S)) LS P Q X Y) := HW3.out.farU hkk fun j e => by
        obtain ⟨_, _, cur, hc⟩ := own_type HO3.out.row g2 rfl
        exact ⟨cur, by rw [e]; exact hc⟩
      have HX4 : Hid (NewI w2.heap.size wr (.slice xa xn xc) (goneL (LS i) S)) := own_kept HX3.out hkk fun j hj e => by
        obtain ⟨_, _, cur, hc⟩ := own_type HX3.out j hj
        obtain ⟨_, _, cur', hc'⟩ := own_type HO3.out.row g2 rfl
        rw [e] at hc
        exact absurd (tag_eq hc hc') (by decide)
      have HSW : Hid (w3.heap.size ≤ wr.heap.size) := hkk.size
      have HX3L : Hid (∀ j, (Value.slice xa xn xc).ownBlock = some j → j < w3.heap.size) := fun j hj => (own_type HX3.out j hj).1
      have hBr : B ≤ wr.heap.size := HW4.out.hB
      have HF4 : Hid (Calls Try.prog 17 #[ptr (cs i), .slice sa S.length sc] wr fun r w' => ∃ vp v', r = .returned vp ∧ NewI wr.heap.size w' vp [] ∧ Wst B m w' W cs rs (at_ va i v') vb (at_ LS i (leftL (LS i) S)) LS P Q X Y ∧ Stay wr w' ∧ Below B wr w') := by
        refine Calls.mono (HW4.out.free_l HI.out ((HS.out.below HBR.out).at hBr) (by have := HLN.out.2.2; omega)) ?_
        rintro r w' ⟨vp, v', h1, h2, h3, h4, h5, _⟩
        rw [at_same, gone_left] at h2
        rw [at_same, left_left, at_at, at_at] at h3
        exact ⟨vp, v', h1, h2, h3, h4, h5⟩
      clear ho hkk hlt hk hke HKK HO HW3 HX3 HO3
      go_wp2_with fail
      refine Calls.mono HF4.out ?_
      rintro r w5 ⟨yp, v5, rfl, hy5, hw5, hs5, hb5⟩
      obtain ⟨ya, yn, yc, ey⟩ : ∃ a n c, yp = Value.slice a n c := (by obtain ⟨a, c, e⟩ := own_slice hy5; exact ⟨_, _, _, e⟩)
      subst ey
      have HY5 : Hid (NewI wr.heap.size w5 (.slice ya yn yc) []) := hy5
      have HW5 : Hid (Wst B m w5 W cs rs (at_ va i v5) vb (at_ LS i (leftL (LS i) S)) LS P Q X Y) := hw5
      have HB5 : Hid (Below B w w5) := HBR.out.trans hb5
      have HX5 : Hid (NewI w2.heap.size w5 (.slice xa xn xc) (goneL (LS i) S)) := own_stayI HX4.out hs5
      have HO5 : Hid (OwnU w.heap.size w5 g2 c2 S S.length) := OwnU.stay HOE.out hs5
      have HS5 : Hid (wr.heap.size ≤ w5.heap.size) := hs5.size
      have hB5 : B ≤ w5.heap.size := hw5.hB
      have HF5 : Hid (Calls Try.prog 41 #[ptr (rs i), .slice sa S.length sc] w5 fun r w' => ∃ vp v', r = .returned vp ∧ NewI w5.heap.size w' vp (goneL (LS i) S) ∧ Wst B m w' W cs rs (at_ va i v5) (at_ vb i v') (at_ LS i (leftL (LS i) S)) (at_ LS i (leftL (LS i) S)) P Q X Y ∧ Stay w5 w' ∧ Below B w5 w') := HW5.out.free_r HI.out ((HS.out.below HB5.out).at hB5) (by have := HLN.out.2.2; omega) (by have := HLN.out.2.1; omega)
      clear hy5 hw5 hs5 hb5 HF4 HW4 HX4 HOE hltz
      go_wp2_with fail
      refine Calls.mono HF5.out ?_
      rintro r w6 ⟨zp, v6, rfl, hz6, hw6, hs6, hb6⟩
      obtain ⟨za, zn, zc, ez⟩ : ∃ a n c, zp = Value.slice a n c := (by obtain ⟨a, c, e⟩ := own_slice hz6; exact ⟨_, _, _, e⟩)
      subst ez
      have HZ6 : Hid (NewI w5.heap.size w6 (.slice za zn zc) (goneL (LS i) S)) := hz6
      have HW6 : Hid (Wst B m w6 W cs rs (at_ va i v5) (at_ vb i v6) (at_ LS i (leftL (LS i) S)) (at_ LS i (leftL (LS i) S)) P Q X Y) := hw6
      have HB6 : Hid (Below B w w6) := HB5.out.trans hb6
      have HX6 : Hid (NewI w2.heap.size w6 (.slice xa xn xc) (goneL (LS i) S)) := own_stayI HX5.out hs6
      have HY6 : Hid (NewI wr.heap.size w6 (.slice ya yn yc) []) := own_stayI HY5.out hs6
      have HO6 : Hid (OwnU w.heap.size w6 g2 c2 S S.length) := OwnU.stay HO5.out hs6
      have HS6 : Hid (w5.heap.size ≤ w6.heap.size) := hs6.size
      have HY5L : Hid (∀ j, (Value.slice ya yn yc).ownBlock = some j → wr.heap.size ≤ j ∧ j < w5.heap.size) := fun j hj => ⟨(own_type HY5.out j hj).2.1, (own_type HY5.out j hj).1⟩
      have HZL : Hid (∀ j, (Value.slice za zn zc).ownBlock = some j → w5.heap.size ≤ j) := fun j hj => (own_type HZ6.out j hj).2.1
      have HXL : Hid (∀ j, (Value.slice xa xn xc).ownBlock = some j → w2.heap.size ≤ j ∧ j < w3.heap.size) := fun j hj => ⟨(own_type HX6.out j hj).2.1, HX3L.out j hj⟩
      have HPL : Hid (∀ p ∈ P ++ Q, ∀ j, p.1.ownBlock = some j → j < w.heap.size) := fun p hp j hj => by
        rcases List.mem_append.1 hp with hp | hp
        · exact (own_type (HW.out.core.oP p hp) j hj).1
        · exact (own_type (HW.out.core.oQ p hp) j hj).1
      have HQN : Hid (Q.length = P.length) := by have := congrArg List.length HSM.out; rw [Hid]; simpa using this.symm
      have HGL : Hid ((goneL (LS i) S).length ≤ (LS i).length) := by have := gone_short (LS i) (LS i).length S; rw [List.take_of_length_le (Nat.le_refl _)] at this; exact this
      have hBw2 : B ≤ w2.heap.size := Nat.le_trans hBw HSZ.out.1
      have hBwr : B ≤ wr.heap.size := hBr
      have HPG : Hid (Calls Try.prog 25 #[ptr W, .slice xa xn xc, .slice za zn zc] w6 fun r w' => r = .returned (.bool true) ∧ Wst B m w' W cs rs (at_ va i v5) (at_ vb i v6) (at_ LS i (leftL (LS i) S)) (at_ LS i (leftL (LS i) S)) (P ++ [(.slice xa xn xc, goneL (LS i) S)]) (Q ++ [(.slice za zn zc, goneL (LS i) S)]) X Y ∧ Stay w6 w' ∧ Below B w6 w') :=
        law_pages_any HW6.out (own_mono HX6.out hBw2) (own_mono HZ6.out hB5) (fun p hp j hj e => by
            have h1 := (HXL.out j hj).1; have h2 := HPL.out p hp j e; have := HSZ.out; omega)
          (fun p hp j hj e => by
            have h1 := HZL.out j hj; have h2 := HPL.out p (List.mem_append.2 (.inl hp)) j e; have := HSZ.out; have := HSW.out; have := HS5.out; omega)
          (fun j hj e => by
            have h1 := HXL.out j hj; have h2 := HZL.out j e; have := HSW.out; have := HS5.out; omega)
          (by have := HLN.out.1; omega) (by have := HLN.out.1; have := HQN.out; omega) (by have := HGL.out; have := HLN.out.2.1; omega)
      clear hz6 hw6 hs6 hb6 HF5 HW5 HY5 HX5 HO5 HW6 HX6
      go_wp2_with fail
      refine Calls.mono HPG.out ?_
      rintro r w7 ⟨rfl, hw7, hs7, hb7⟩
      have HW7 : Hid (Wst B m w7 W cs rs (at_ va i v5) (at_ vb i v6) (at_ LS i (leftL (LS i) S)) (at_ LS i (leftL (LS i) S)) (P ++ [(.slice xa xn xc, goneL (LS i) S)]) (Q ++ [(.slice za zn zc, goneL (LS i) S)]) X Y) := hw7
      have HB7 : Hid (Below B w w7) := HB6.out.trans hb7
      have HY7 : Hid (NewI wr.heap.size w7 (.slice ya yn yc) []) := own_stayI HY6.out hs7
      have HO7 : Hid (OwnU w.heap.size w7 g2 c2 S S.length) := OwnU.stay HO6.out hs7
      have HPG2 : Hid (Calls Try.prog 25 #[ptr W, .slice ya yn yc, .slice none 0 0] w7 fun r w' => r = .returned (.bool true) ∧ Wst B m w' W cs rs (at_ va i v5) (at_ vb i v6) (at_ LS i (leftL (LS i) S)) (at_ LS i (leftL (LS i) S)) (P ++ [(.slice xa xn xc, goneL (LS i) S)] ++ [(.slice ya yn yc, [])]) (Q ++ [(.slice za zn zc, goneL (LS i) S)] ++ [(.slice none 0 0, [])]) X Y ∧ Stay w7 w' ∧ Below B w7 w') :=
        law_pages_any HW7.out (own_mono HY7.out hBwr) (World.ownsRow_nil _ _ _ _) (fun p hp j hj e => by
            have h1 := HY5L.out j hj
            have hh : p ∈ P ++ Q ∨ p = (.slice xa xn xc, goneL (LS i) S) ∨ p = (.slice za zn zc, goneL (LS i) S) := by
              simp only [List.mem_append, List.mem_singleton] at hp ⊢
              rcases hp with (hp | hp) | (hp | hp)
              · exact .inl (.inl hp)
              · exact .inr (.inl hp)
              · exact .inl (.inr hp)
              · exact .inr (.inr hp)
            rcases hh with hp | hp | hp
            · have h2 := HPL.out p hp j e; have := HSZ.out; have := HSW.out; omega
            · rw [hp] at e; have h2 := HXL.out j e; have := HSW.out; omega
            · rw [hp] at e; have h2 := HZL.out j e; omega)
          (fun p hp j hj => by cases hj) (fun j hj e => by cases e)
          (by have := HLN.out.1; simp only [List.length_append, List.length_cons, List.length_nil]; omega) (by have := HLN.out.1; have := HQN.out; simp only [List.length_append, List.length_cons, List.length_nil]; omega) (by simp)
      clear hw7 hs7 hb7 HPG HY6 HO6
      go_wp2_with fail
      refine Calls.mono HPG2.out ?_
      rintro r w8 ⟨rfl, hw8, hs8, hb8⟩
      have HW8 : Hid (Wst B m w8 W cs rs (at_ va i v5) (at_ vb i v6) (at_ LS i (leftL (LS i) S)) (at_ LS i (leftL (LS i) S)) (P ++ [(.slice xa xn xc, goneL (LS i) S)] ++ [(.slice ya yn yc, [])]) (Q ++ [(.slice za zn zc, goneL (LS i) S)] ++ [(.slice none 0 0, [])]) X Y) := hw8
      have HB8 : Hid (Below B w w8) := HB7.out.trans hb8
      have ho8 := HO7.out.stay hs8
      have hlast : w8.cell? ⟨g2, S.length, none⟩ = some (.int .u64 77) := ho8.cell (lentN_last S _ (Nat.le_refl _))
      clear hw8 hs8 hb8 HPG2 HO7 ho8
      go_wp2_with fail
      go_ret
      refine ⟨rfl, _, _, _, _, HW8.out, ?_, by simp, fun p hp => ?_, HB8.out⟩
      · have := HSM.out
        simp [this]
      · simp only [List.mem_append, List.mem_singleton] at hp
        rcases hp with (hp | hp) | hp
        · exact .inl hp
        · rw [hp]; exact .inr HGL.out
        · rw [hp]; exact .inr (Nat.zero_le _)
end Go.Proofs.Ytcfmcakdgamdmaa
