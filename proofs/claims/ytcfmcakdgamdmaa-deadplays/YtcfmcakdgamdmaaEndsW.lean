/- ends: the walk. -/
import Derived.Test.YtcfmcakdgamdmaaEndsQ
namespace Go.Proofs.Ytcfmcakdgamdmaa
open Go.RowKit

/-- Some lists as they lie, none too long. -/
structure Es (B : Nat) (w0 w : World) (W : Nat) (vl vr vp vq vx vy : Value) (c : Int) (N M : Nat) (κ μ : Nat → Nat) : Prop where
  is : ∃ f g s t, En B w W vl vr vp vq vx vy c N M f g s t ∧ (∀ i, i < N → (f i).2.length ≤ κ i) ∧ (∀ i, i < M → (s i).2.length ≤ μ i)
  low : Below B w0 w
theorem Es.wide {B : Nat} {w0 w : World} {W : Nat} {vl vr vp vq vx vy : Value} {c : Int} {N M : Nat} {κ μ κ' μ' : Nat → Nat} (h : Es B w0 w W vl vr vp vq vx vy c N M κ μ) (h1 : ∀ i, i < N → κ i ≤ κ' i) (h2 : ∀ i, i < M → μ i ≤ μ' i) : Es B w0 w W vl vr vp vq vx vy c N M κ' μ' := by
  obtain ⟨⟨f, g, s, t, a, b, d⟩, e⟩ := h
  exact ⟨⟨f, g, s, t, a, fun i hi => Nat.le_trans (b i hi) (h1 i hi), fun i hi => Nat.le_trans (d i hi) (h2 i hi)⟩, e⟩
theorem len_at {α : Type} {f : Nat → Value × List α} {κ κ' : Nat → Nat} {v : Value} {ys : List α} {n N : Nat} (h : ∀ i, i < N → (f i).2.length ≤ κ i) (hy : ys.length ≤ κ' n) (ho : ∀ i, i ≠ n → κ i ≤ κ' i) : ∀ i, i < N → (at_ f n (v, ys) i).2.length ≤ κ' i := fun i hi => by
  by_cases e : i = n
  · subst e; rw [at_same]; exact hy
  · rw [at_other e]; exact Nat.le_trans (h i hi) (ho i e)
set_option maxHeartbeats 6400000 in
set_option maxRecDepth 100000 in
theorem ends_any {B : Nat} {w : World} {W : Nat} {vl vr vp vq vx vy : Value} {c : Int} {N M K : Nat} (h : Es B w w W vl vr vp vq vx vy c N M (fun _ => K) (fun _ => K)) (hN : N ≤ 4398046511104) (hM : M ≤ 4398046511104) (hK : K ≤ 1954687338269) :
    Calls Try.prog 9 #[ptr W] w fun e w' => e = .returned (.bool true) ∧ Below B w w' := by
  have HE : Hid (Es B w w W vl vr vp vq vx vy c N M (fun _ => K) (fun _ => K)) := h
  have hz : ∃ f g s t, En B w W vl vr vp vq vx vy c N M f g s t := by obtain ⟨⟨f, g, s, t, h1, _⟩, _⟩ := h; exact ⟨f, g, s, t, h1⟩
  obtain ⟨f, g, s, t, hz⟩ := hz
  obtain ⟨ap, cp, rfl⟩ := own_slice hz.rp
  obtain ⟨aq, cq, rfl⟩ := own_slice hz.rq
  obtain ⟨ax, cx, rfl⟩ := own_slice hz.rx
  obtain ⟨ay, cy, rfl⟩ := own_slice hz.ry
  obtain ⟨d2, _, _, _⟩ := hz.cells
  have HLN : Hid (N ≤ 4398046511104 ∧ M ≤ 4398046511104 ∧ K ≤ 1954687338269) := ⟨hN, hM, hK⟩
  have hNz : (N : Int) ≤ 4398046511104 := by omega
  have hMz : (M : Int) ≤ 4398046511104 := by omega
  clear h hz hN hM hK
  go_enter Try.func9, Try.ntmps9
  go_wp2_with fail
  clear d2
  go_loopw [3] (fun z wr => ∃ n : Nat, n ≤ N ∧ z = .int .i64 n ∧ Es B w wr W vl vr (.slice ap N cp) (.slice aq N cq) (.slice ax M cx) (.slice ay M cy) c N M (fun _ => K) (fun _ => K)) (fun z _ => N - (intOf z).toNat)
  case atStart => exact ⟨0, Nat.zero_le _, rfl, HE.out⟩
  case round =>
    clear HE
    obtain ⟨n, hn, rfl, hes⟩ := hrel
    have HES : Hid (Es B w wr W vl vr (.slice ap N cp) (.slice aq N cq) (.slice ax M cx) (.slice ay M cy) c N M (fun _ => K) (fun _ => K)) := hes
    obtain ⟨⟨f, g, s, t, hen, hkf, hks⟩, hlow⟩ := hes
    have HEN : Hid (En B wr W vl vr (.slice ap N cp) (.slice aq N cq) (.slice ax M cx) (.slice ay M cy) c N M f g s t) := hen
    have HKF : Hid (∀ i, i < N → (f i).2.length ≤ (fun _ => K) i) := hkf
    have HKS : Hid (∀ i, i < M → (s i).2.length ≤ (fun _ => K) i) := hks
    have HLOW : Hid (Below B w wr) := hlow
    obtain ⟨d2, d3, d4, d5⟩ := hen.cells
    by_cases hlt : n < N
    · have hltz : (n : Int) < (N : Int) := by omega
      obtain ⟨gp, _, curp, e1, p1, p2, p3⟩ := row_at hen.rp (pl_at hlt)
      cases e1
      obtain ⟨gq, _, curq, e1, q1, q2, q3⟩ := row_at hen.rq (pl_at hlt)
      cases e1
      obtain ⟨fa, fc, hf⟩ := own_slice (hen.ip n hlt)
      obtain ⟨ga, gc, hg⟩ := own_slice (hen.iq n hlt)
      rw [hf] at p1
      rw [hg] at q1
      have HXL : Hid ((f n).2.length ≤ K) := HKF.out n hlt
      have HSN : Hid (∀ q, Calls Try.prog 19 #[.slice fa (f n).2.length fc, .slice ga (g n).2.length gc] (wr.drewN q) fun e w' => e = .returned (.bool true) ∧ ∃ p, w' = (wr.drewN q).drewN p) := fun q => by
        have := (HEN.out.below (below_draws (Below.refl _ _) q)).same_p hlt (by have := HXL.out; have := HLN.out; omega)
        rw [hf, hg] at this
        exact this
      have HF : Hid ((f n).1 = .slice fa (f n).2.length fc) := hf
      have HGL : Hid (n < N) := hlt
      generalize hxs : (f n).2 = xs at *
      generalize hys : (g n).2.length = yl at *
      have HXS : Hid ((f n).2 = xs) := hxs
      obtain ⟨wi, rfl⟩ : ∃ wi, wi = wr := ⟨_, rfl⟩
      clear hen hkf hks hlow hf hg hxs hys
      go_wp2_with fail
      go_quiet ((go_at_call 19; exact Calls.quiet_of (HSN.out _)))
      obtain ⟨wq, hwq⟩ : ∃ wq, wq = wi.drewN nq := ⟨_, rfl⟩
      have HBQ : Hid (Below wi.heap.size wi wq) := by rw [hwq]; exact below_draws (Below.refl _ _) nq
      rw [← hwq]
      have HEQ : Hid (En B wq W vl vr (.slice (some ⟨gp, 0, none⟩) N cp) (.slice (some ⟨gq, 0, none⟩) N cq) (.slice ax M cx) (.slice ay M cy) c N M f g s t) := HEN.out.below HBQ.out
      have HLQ : Hid (Below B w wq) := HLOW.out.trans (HBQ.out.mono HEN.out.hB)
      clear hwq HEN HES HLOW HSN d2 d3 d4 d5 p1 q1 p2 q2
      obtain ⟨d2, d3, d4, d5⟩ := HEQ.out.cells
      go_wp2_with fail
      clear d2 d3 d4 d5
      have HNP : Hid (NewI B wq (.slice fa xs.length fc) xs) := by have := HEQ.out.ip n HGL.out; rw [HF.out, HXS.out] at this; exact this
      have HXZ : Hid ((xs.length : Int) ≤ 1954687338269) := by have := HXL.out; have := HLN.out.2.2; show (xs.length : Int) ≤ _; omega
      go_loopw [5] (fun z wr => ∃ (k : Nat) (ys : List Int), k ≤ xs.length ∧ z = .int .i64 k ∧ ys.length = xs.length ∧ NewI B wr (.slice fa xs.length fc) ys ∧ Kept (fun b => (Value.slice fa xs.length fc).ownBlock = some b) wq wr) (fun z _ => xs.length - (intOf z).toNat)
      case atStart => exact ⟨0, xs, Nat.zero_le _, rfl, rfl, HNP.out, Kept.refl _ _⟩
      case round =>
        obtain ⟨k, ys, hk, rfl, hy, hown, hkk⟩ := hrel
        have HOWN : Hid (NewI B wr (.slice fa xs.length fc) ys) := hown
        have HKK : Hid (Kept (fun b => (Value.slice fa xs.length fc).ownBlock = some b) wq wr) := hkk
        have HYL : Hid (ys.length = xs.length) := hy
        have hxz := HXZ.out
        obtain ⟨f0, f1, f2, f3, f4⟩ := HEQ.out.far hkk (fun j e => by obtain ⟨_, _, cur, hc⟩ := own_type HNP.out j e; exact ⟨_, _, hc, .inl rfl⟩)
        have d2 : wr.cell? ⟨W, 2, none⟩ = some (.slice (some ⟨gp, 0, none⟩) N cp) := by rw [row_cell f0]; rfl
        have d3 : wr.cell? ⟨W, 3, none⟩ = some (.slice (some ⟨gq, 0, none⟩) N cq) := by rw [row_cell f0]; rfl
        obtain ⟨_, _, curp, e1, p1, p2, _⟩ := row_at f1 (pl_at HGL.out)
        cases e1
        rw [HF.out] at p1
        obtain ⟨_, _, curq, e1, q1, q2, _⟩ := row_at f2 (pl_at HGL.out)
        cases e1
        have m1 : ¬ W = gq := fun e => by rw [← e] at q2; exact absurd (tag_eq q2 f0) (by decide)
        have m2 : ¬ gp = gq := fun e => HEQ.out.dp gp rfl (by rw [e]; rfl)
        have m3 : ¬ gq = W := fun e => m1 e.symm
        have m4 : ¬ gq = gp := fun e => m2 e.symm
        have hWl : W < wr.heap.size := (Array.getElem?_eq_some_iff.1 f0).1
        have hgpl : gp < wr.heap.size := (Array.getElem?_eq_some_iff.1 p2).1
        have hgql : gq < wr.heap.size := (Array.getElem?_eq_some_iff.1 q2).1
        obtain ⟨zq, q1⟩ : ∃ z, wr.cell? ⟨gq, n, none⟩ = some z := ⟨_, q1⟩
        have qf : wr.frozen? ⟨gq, n, none⟩ = false := row_frozen q2 n
        by_cases hkl : k < xs.length
        · have hkz : (k : Int) < (xs.length : Int) := by omega
          obtain ⟨y, hyk⟩ : ∃ y, ys[k]? = some y := ⟨_, List.getElem?_eq_getElem (by omega)⟩
          obtain ⟨b, rfl, hc⟩ := own_some hown (by omega)
          obtain ⟨_, _, curb, hgb⟩ := own_type hown b rfl
          have hcell := hc k (.int .i64 y) (by rw [List.getElem?_map, hyk]; rfl)
          have hfz : wr.frozen? ⟨b, k, none⟩ = false := row_frozen hgb k
          have n1 : ¬ W = b := fun e => by rw [← e] at hgb; exact absurd (tag_eq hgb f0) (by decide)
          have n2 : ¬ gp = b := fun e => by rw [← e] at hgb; exact absurd (tag_eq hgb p2) (by decide)
          have n3 : ¬ b = W := fun e => n1 e.symm
          have n4 : ¬ b = gp := fun e => n2 e.symm
          clear hown hkk f0 f1 f2 f3 f4 p2 q2 hgb hc q1 qf d3 hyk hgql hWl hgpl
          go_wp2
          exact ⟨⟨k + 1, ys.set k (-(n : Int)), by omega, by go_num, by rw [List.length_set]; exact HYL.out, newI_set HOWN.out, HKK.out.trans (setCell_kept _) (fun i _ e => by rw [e]; rfl)⟩, by simp [intOf]; omega⟩
        · have hkz : ¬ (k : Int) < (xs.length : Int) := by omega
          have HP2 : Hid (wr.ownsRow B 47 1 (.slice (some ⟨gp, 0, none⟩) N cp) N (pl N (at_ f n (.slice fa xs.length fc, ys)))) := by
            have h : pl N (at_ f n ((f n).1, ys)) = pl N f := pl_same
            rw [HF.out] at h
            rw [h]
            exact f1
          have HK2 : Hid (Kept (fun k => (f n).1.ownBlock = some k ∨ (Value.slice (some ⟨gp, 0, none⟩) N cp).ownBlock = some k) wq wr) := hkk.mono fun _ _ e => .inl (by rw [HF.out]; exact e)
          have HVB : Hid (∀ k, (Value.slice fa xs.length fc).ownBlock = some k → (f n).1.ownBlock = some k ∨ wq.heap.size ≤ k) := fun _ e => .inl (by rw [HF.out]; exact e)
          have HYB : Hid (ys.length ≤ K + 20) := by have := HXL.out; show ys.length ≤ _; omega
          clear hown hkk f0 f1 f2 f3 f4 p2 q2 hkl
          go_wp2_with fail
          obtain ⟨w3, hw3⟩ : ∃ w3, w3 = (wr.alloc (.cells #[] 3)).drew := ⟨_, rfl⟩
          have HW3 : Hid (w3 = (wr.alloc (.cells #[] 3)).drew) := hw3
          have HB3 : Hid (Below wr.heap.size wr w3) := by rw [hw3]; exact (below_new wr _).drew
          have HE3 : Hid (w3.ownsRow wr.heap.size 3 1 (.slice (some ⟨wr.heap.size, 0, none⟩) 0 0) 0 []) := by rw [hw3]; exact World.ownsRow_made wr #[] 0 (Nat.le_refl _) (Nat.zero_le _) rfl
          have HI3 : Hid (IntsAt w3 (.slice fa xs.length fc) ys) := RowAt.own (own_here HOWN.out HB3.out)
          have HQ1 : Hid (wr.cell? ⟨gq, n, none⟩ = some zq ∧ wr.frozen? ⟨gq, n, none⟩ = false ∧ gq < wr.heap.size) := ⟨q1, qf, hgql⟩
          have HCL : Hid ((wr.cell? ⟨W, 2, none⟩ = some (.slice (some ⟨gp, 0, none⟩) N cp) ∧ wr.cell? ⟨W, 3, none⟩ = some (.slice (some ⟨gq, 0, none⟩) N cq) ∧ wr.cell? ⟨gp, n, none⟩ = some (.slice fa xs.length fc)) ∧ W < wr.heap.size ∧ gp < wr.heap.size) := ⟨⟨d2, d3, p1⟩, hWl, hgpl⟩
          clear hw3 q1 qf hgql hWl hgpl
          go_region_held_law (fun W' => W'.cell? ⟨W, 2, none⟩ = some (.slice (some ⟨gp, 0, none⟩) N cp) ∧ W'.cell? ⟨W, 3, none⟩ = some (.slice (some ⟨gq, 0, none⟩) N cq) ∧ W'.cell? ⟨gp, n, none⟩ = some (.slice fa xs.length fc)) (first | go_keep | assumption | (refine ⟨?_, ?_, ?_⟩ <;> assumption)) (
            first | (rw [← HW3.out]
                     refine step_copyI (by rfl) _ _ (by rfl) wr.heap.size wr.heap.size (by rfl) (by exact HE3.out) (.slice fa xs.length fc) ys (by rfl) (by exact HI3.out) (by have := HYB.out; have := HLN.out; omega) (by exact Below.size HB3.out) ?_
                     intro ad nu cu w4 hnu hn4 hg4
                     have HNU : Hid (nu = ys.length) := hnu
                     have HB4 : Hid (Below wr.heap.size wr w4) := HB3.out.trans (grown_below HE3.out hg4 (Below.size HB3.out))
                     have HN4 : Hid (NewI wr.heap.size w4 (.slice ad nu cu) ys) := hn4
                     have k1 : w4.cell? ⟨W, 2, none⟩ = some (.slice (some ⟨gp, 0, none⟩) N cp) := (HB4.out.cell HCL.out.2.1).trans HCL.out.1.1
                     have k2 : w4.cell? ⟨W, 3, none⟩ = some (.slice (some ⟨gq, 0, none⟩) N cq) := (HB4.out.cell HCL.out.2.1).trans HCL.out.1.2.1
                     have k3 : w4.cell? ⟨gp, n, none⟩ = some (.slice fa xs.length fc) := (HB4.out.cell HCL.out.2.2).trans HCL.out.1.2.2
                     have q4 : w4.cell? ⟨gq, n, none⟩ = some zq := (HB4.out.cell HQ1.out.2.2).trans HQ1.out.1
                     have qf4 : w4.frozen? ⟨gq, n, none⟩ = false := (HB4.out.frozen HQ1.out.2.2).trans HQ1.out.2.1
                     clear hnu hn4 hg4))
          go_wp2_with fail
          obtain ⟨r1, r2⟩ := HEQ.out.nextI HGL.out HK2.out HP2.out HOWN.out HVB.out HB4.out HN4.out
          refine ⟨⟨n + 1, by omega, by go_num, ⟨⟨_, _, _, _, r1, ?_, ?_⟩, HLQ.out.trans r2⟩⟩, by simp [intOf]; omega⟩
          · exact len_at HKF.out (by have h1 := HYL.out; have h2 := HXL.out; show ys.length ≤ K; omega) (fun _ _ => Nat.le_refl _)
          · exact HKS.out
    · have hltz : ¬ (n : Int) < (N : Int) := by omega
      have HE : Hid (Es B w wr W vl vr (.slice ap N cp) (.slice aq N cq) (.slice ax M cx) (.slice ay M cy) c N M (fun _ => K) (fun _ => K)) := HES.out
      obtain ⟨wl1, rfl⟩ : ∃ wl, wl = wr := ⟨_, rfl⟩
      clear hen hkf hks hlow HES HEN HKF HKS HLOW hlt
      go_wp2_with fail
      clear d2 d3 d4 d5 hltz hn
      go_loopw [6] (fun z wr => ∃ n : Nat, n ≤ M ∧ z = .int .i64 n ∧ Es B w wr W vl vr (.slice ap N cp) (.slice aq N cq) (.slice ax M cx) (.slice ay M cy) c N M (fun _ => K) (fun _ => K)) (fun z _ => M - (intOf z).toNat)
      case atStart => exact ⟨0, Nat.zero_le _, rfl, HE.out⟩
      case round =>
        clear HE
        obtain ⟨n, hn, rfl, hes⟩ := hrel
        have HES : Hid (Es B w wr W vl vr (.slice ap N cp) (.slice aq N cq) (.slice ax M cx) (.slice ay M cy) c N M (fun _ => K) (fun _ => K)) := hes
        obtain ⟨⟨f, g, s, t, hen, hkf, hks⟩, hlow⟩ := hes
        have HEN : Hid (En B wr W vl vr (.slice ap N cp) (.slice aq N cq) (.slice ax M cx) (.slice ay M cy) c N M f g s t) := hen
        have HKF : Hid (∀ i, i < N → (f i).2.length ≤ (fun _ => K) i) := hkf
        have HKS : Hid (∀ i, i < M → (s i).2.length ≤ (fun _ => K) i) := hks
        have HLOW : Hid (Below B w wr) := hlow
        obtain ⟨d2, d3, d4, d5⟩ := hen.cells
        by_cases hlt : n < M
        · have hltz : (n : Int) < (M : Int) := by omega
          obtain ⟨gp, _, curp, e1, p1, p2, p3⟩ := row_at hen.rx (pl_at hlt)
          cases e1
          obtain ⟨gq, _, curq, e1, q1, q2, q3⟩ := row_at hen.ry (pl_at hlt)
          cases e1
          obtain ⟨fa, fc, hf⟩ := own_slice (hen.ix n hlt)
          obtain ⟨ga, gc, hg⟩ := own_slice (hen.iy n hlt)
          rw [hf] at p1
          rw [hg] at q1
          have HXL : Hid ((s n).2.length ≤ K) := HKS.out n hlt
          have HSN : Hid (∀ q, Calls Try.prog 13 #[.slice fa (s n).2.length fc, .slice ga (t n).2.length gc] (wr.drewN q) fun e w' => e = .returned (.bool true) ∧ ∃ p, w' = (wr.drewN q).drewN p) := fun q => by
            have := (HEN.out.below (below_draws (Below.refl _ _) q)).same_x hlt (by have := HXL.out; have := HLN.out; omega)
            rw [hf, hg] at this
            exact this
          have HF : Hid ((s n).1 = .slice fa (s n).2.length fc) := hf
          have HGL : Hid (n < M) := hlt
          generalize hxs : (s n).2 = xs at *
          generalize hys : (t n).2.length = yl at *
          have HXS : Hid ((s n).2 = xs) := hxs
          obtain ⟨wi, rfl⟩ : ∃ wi, wi = wr := ⟨_, rfl⟩
          clear hen hkf hks hlow hf hg hxs hys
          go_wp2_with fail
          go_quiet ((go_at_call 13; exact Calls.quiet_of (HSN.out _)))
          obtain ⟨wq, hwq⟩ : ∃ wq, wq = wi.drewN nq := ⟨_, rfl⟩
          have HBQ : Hid (Below wi.heap.size wi wq) := by rw [hwq]; exact below_draws (Below.refl _ _) nq
          rw [← hwq]
          have HEQ : Hid (En B wq W vl vr (.slice ap N cp) (.slice aq N cq) (.slice (some ⟨gp, 0, none⟩) M cx) (.slice (some ⟨gq, 0, none⟩) M cy) c N M f g s t) := HEN.out.below HBQ.out
          have HLQ : Hid (Below B w wq) := HLOW.out.trans (HBQ.out.mono HEN.out.hB)
          clear hwq HEN HES HLOW HSN d2 d3 d4 d5 p1 q1 p2 q2
          obtain ⟨d2, d3, d4, d5⟩ := HEQ.out.cells
          go_wp2_with fail
          clear d2 d3 d4 d5
          have HNP : Hid (NewL B wq (.slice fa xs.length fc) xs) := by have := HEQ.out.ix n HGL.out; rw [HF.out, HXS.out] at this; exact this
          have HXZ : Hid ((xs.length : Int) ≤ 1954687338269) := by have := HXL.out; have := HLN.out.2.2; show (xs.length : Int) ≤ _; omega
          go_loopw [8] (fun z wr => ∃ (k : Nat) (ys : List Lf), k ≤ xs.length ∧ z = .int .i64 k ∧ ys.length = xs.length ∧ NewL B wr (.slice fa xs.length fc) ys ∧ Kept (fun b => (Value.slice fa xs.length fc).ownBlock = some b) wq wr) (fun z _ => xs.length - (intOf z).toNat)
          case atStart => exact ⟨0, xs, Nat.zero_le _, rfl, rfl, HNP.out, Kept.refl _ _⟩
          case round =>
            obtain ⟨k, ys, hk, rfl, hy, hown, hkk⟩ := hrel
            have HOWN : Hid (NewL B wr (.slice fa xs.length fc) ys) := hown
            have HKK : Hid (Kept (fun b => (Value.slice fa xs.length fc).ownBlock = some b) wq wr) := hkk
            have HYL : Hid (ys.length = xs.length) := hy
            have hxz := HXZ.out
            obtain ⟨f0, f1, f2, f3, f4⟩ := HEQ.out.far hkk (fun j e => by obtain ⟨_, _, cur, hc⟩ := own_type HNP.out j e; exact ⟨_, _, hc, .inr rfl⟩)
            have d2 : wr.cell? ⟨W, 4, none⟩ = some (.slice (some ⟨gp, 0, none⟩) M cx) := by rw [row_cell f0]; rfl
            have d3 : wr.cell? ⟨W, 5, none⟩ = some (.slice (some ⟨gq, 0, none⟩) M cy) := by rw [row_cell f0]; rfl
            obtain ⟨_, _, curp, e1, p1, p2, _⟩ := row_at f3 (pl_at HGL.out)
            cases e1
            rw [HF.out] at p1
            obtain ⟨_, _, curq, e1, q1, q2, _⟩ := row_at f4 (pl_at HGL.out)
            cases e1
            have m1 : ¬ W = gq := fun e => by rw [← e] at q2; exact absurd (tag_eq q2 f0) (by decide)
            have m2 : ¬ gp = gq := fun e => HEQ.out.dx gp rfl (by rw [e]; rfl)
            have m3 : ¬ gq = W := fun e => m1 e.symm
            have m4 : ¬ gq = gp := fun e => m2 e.symm
            have hWl : W < wr.heap.size := (Array.getElem?_eq_some_iff.1 f0).1
            have hgpl : gp < wr.heap.size := (Array.getElem?_eq_some_iff.1 p2).1
            have hgql : gq < wr.heap.size := (Array.getElem?_eq_some_iff.1 q2).1
            obtain ⟨zq, q1⟩ : ∃ z, wr.cell? ⟨gq, n, none⟩ = some z := ⟨_, q1⟩
            have qf : wr.frozen? ⟨gq, n, none⟩ = false := row_frozen q2 n
            by_cases hkl : k < xs.length
            · have hkz : (k : Int) < (xs.length : Int) := by omega
              obtain ⟨y, hyk⟩ : ∃ y, ys[k]? = some y := ⟨_, List.getElem?_eq_getElem (by omega)⟩
              obtain ⟨b, rfl, hc⟩ := own_some hown (by omega)
              obtain ⟨_, _, curb, hgb⟩ := own_type hown b rfl
              obtain ⟨y1, y2, y3⟩ := flatL_at hyk
              have hc1 := hc _ _ y1
              have hc2 := hc _ _ y2
              have hc3 := hc _ _ y3
              have hz1 : wr.frozen? ⟨b, k * 3, none⟩ = false := row_frozen hgb _
              have hz2 : wr.frozen? ⟨b, k * 3 + 1, none⟩ = false := row_frozen hgb _
              have hz3 : wr.frozen? ⟨b, k * 3 + 2, none⟩ = false := row_frozen hgb _
              clear y1 y2 y3
              have n1 : ¬ W = b := fun e => by rw [← e] at hgb; exact absurd (tag_eq hgb f0) (by decide)
              have n2 : ¬ gp = b := fun e => by rw [← e] at hgb; exact absurd (tag_eq hgb p2) (by decide)
              have n3 : ¬ b = W := fun e => n1 e.symm
              have n4 : ¬ b = gp := fun e => n2 e.symm
              clear hown hkk f0 f1 f2 f3 f4 p2 q2 hgb hc q1 qf d3 hyk hgql hWl hgpl
              go_wp2
              exact ⟨⟨k + 1, ys.set k ⟨-(n : Int), 0, 0⟩, by omega, by go_num, by rw [List.length_set]; exact HYL.out, newL_mark HOWN.out, ((HKK.out.trans (setCell_kept _) (fun i _ e => by rw [e]; rfl)).trans (setCell_kept _) (fun i _ e => by rw [e]; rfl)).trans (setCell_kept _) (fun i _ e => by rw [e]; rfl)⟩, by simp [intOf]; omega⟩
            · have hkz : ¬ (k : Int) < (xs.length : Int) := by omega
              have HP2 : Hid (wr.ownsRow B 39 1 (.slice (some ⟨gp, 0, none⟩) M cx) M (pl M (at_ s n (.slice fa xs.length fc, ys)))) := by
                have h : pl M (at_ s n ((s n).1, ys)) = pl M s := pl_same
                rw [HF.out] at h
                rw [h]
                exact f3
              have HK2 : Hid (Kept (fun k => (s n).1.ownBlock = some k ∨ (Value.slice (some ⟨gp, 0, none⟩) M cx).ownBlock = some k) wq wr) := hkk.mono fun _ _ e => .inl (by rw [HF.out]; exact e)
              have HVB : Hid (∀ k, (Value.slice fa xs.length fc).ownBlock = some k → (s n).1.ownBlock = some k ∨ wq.heap.size ≤ k) := fun _ e => .inl (by rw [HF.out]; exact e)
              have HYB : Hid (ys.length ≤ K + 20) := by have := HXL.out; show ys.length ≤ _; omega
              clear hown hkk f0 f1 f2 f3 f4 p2 q2 hkl
              go_wp2_with fail
              obtain ⟨w3, hw3⟩ : ∃ w3, w3 = (wr.alloc (.cells #[] 34)).drew := ⟨_, rfl⟩
              have HW3 : Hid (w3 = (wr.alloc (.cells #[] 34)).drew) := hw3
              have HB3 : Hid (Below wr.heap.size wr w3) := by rw [hw3]; exact (below_new wr _).drew
              have HE3 : Hid (w3.ownsRow wr.heap.size 34 3 (.slice (some ⟨wr.heap.size, 0, none⟩) 0 0) 0 []) := by rw [hw3]; exact World.ownsRow_made wr #[] 0 (Nat.le_refl _) (Nat.zero_le _) rfl
              have HI3 : Hid (LivesAt w3 (.slice fa xs.length fc) ys) := RowAt.own (own_here HOWN.out HB3.out)
              have HQ1 : Hid (wr.cell? ⟨gq, n, none⟩ = some zq ∧ wr.frozen? ⟨gq, n, none⟩ = false ∧ gq < wr.heap.size) := ⟨q1, qf, hgql⟩
              have HCL : Hid ((wr.cell? ⟨W, 4, none⟩ = some (.slice (some ⟨gp, 0, none⟩) M cx) ∧ wr.cell? ⟨W, 5, none⟩ = some (.slice (some ⟨gq, 0, none⟩) M cy) ∧ wr.cell? ⟨gp, n, none⟩ = some (.slice fa xs.length fc)) ∧ W < wr.heap.size ∧ gp < wr.heap.size) := ⟨⟨d2, d3, p1⟩, hWl, hgpl⟩
              clear hw3 q1 qf hgql hWl hgpl
              go_region_held_law (fun W' => W'.cell? ⟨W, 4, none⟩ = some (.slice (some ⟨gp, 0, none⟩) M cx) ∧ W'.cell? ⟨W, 5, none⟩ = some (.slice (some ⟨gq, 0, none⟩) M cy) ∧ W'.cell? ⟨gp, n, none⟩ = some (.slice fa xs.length fc)) (first | go_keep | assumption | (refine ⟨?_, ?_, ?_⟩ <;> assumption)) (
                first | (rw [← HW3.out]
                         refine step_copyL (by rfl) _ _ (by rfl) wr.heap.size wr.heap.size (by rfl) (by exact HE3.out) (.slice fa xs.length fc) ys (by rfl) (by exact HI3.out) (by have := HYB.out; have := HLN.out; omega) (by exact Below.size HB3.out) ?_
                         intro ad nu cu w4 hnu hn4 hg4
                         have HNU : Hid (nu = ys.length) := hnu
                         have HB4 : Hid (Below wr.heap.size wr w4) := HB3.out.trans (grown_below HE3.out hg4 (Below.size HB3.out))
                         have HN4 : Hid (NewL wr.heap.size w4 (.slice ad nu cu) ys) := hn4
                         have k1 : w4.cell? ⟨W, 4, none⟩ = some (.slice (some ⟨gp, 0, none⟩) M cx) := (HB4.out.cell HCL.out.2.1).trans HCL.out.1.1
                         have k2 : w4.cell? ⟨W, 5, none⟩ = some (.slice (some ⟨gq, 0, none⟩) M cy) := (HB4.out.cell HCL.out.2.1).trans HCL.out.1.2.1
                         have k3 : w4.cell? ⟨gp, n, none⟩ = some (.slice fa xs.length fc) := (HB4.out.cell HCL.out.2.2).trans HCL.out.1.2.2
                         have q4 : w4.cell? ⟨gq, n, none⟩ = some zq := (HB4.out.cell HQ1.out.2.2).trans HQ1.out.1
                         have qf4 : w4.frozen? ⟨gq, n, none⟩ = false := (HB4.out.frozen HQ1.out.2.2).trans HQ1.out.2.1
                         clear hnu hn4 hg4))
              go_wp2_with fail
              obtain ⟨r1, r2⟩ := HEQ.out.nextL HGL.out HK2.out HP2.out HOWN.out HVB.out HB4.out HN4.out
              refine ⟨⟨n + 1, by omega, by go_num, ⟨⟨_, _, _, _, r1, ?_, ?_⟩, HLQ.out.trans r2⟩⟩, by simp [intOf]; omega⟩
              · exact HKF.out
              · exact len_at HKS.out (by have h1 := HYL.out; have h2 := HXL.out; show ys.length ≤ K; omega) (fun _ _ => Nat.le_refl _)
        · have hltz : ¬ (n : Int) < (M : Int) := by omega
          have HE : Hid (Es B w wr W vl vr (.slice ap N cp) (.slice aq N cq) (.slice ax M cx) (.slice ay M cy) c N M (fun _ => K) (fun _ => K)) := HES.out
          obtain ⟨wl2, rfl⟩ : ∃ wl, wl = wr := ⟨_, rfl⟩
          clear hen hkf hks hlow HES HEN HKF HKS HLOW hlt
          go_wp2_with fail
          clear d2 d3 d4 d5 hltz hn
          go_loopw [9] (fun z wr => ∃ n : Nat, n ≤ N ∧ z = .int .i64 n ∧ Es B w wr W vl vr (.slice ap N cp) (.slice aq N cq) (.slice ax M cx) (.slice ay M cy) c N M (fun i => if i < n then K + 20 else K) (fun _ => K)) (fun z _ => N - (intOf z).toNat)
          case atStart => exact ⟨0, Nat.zero_le _, rfl, HE.out.wide (fun i _ => by (try dsimp only); split <;> omega) (fun i _ => Nat.le_refl _)⟩
          case round =>
            clear HE
            obtain ⟨n, hn, rfl, hes⟩ := hrel
            have HES : Hid (Es B w wr W vl vr (.slice ap N cp) (.slice aq N cq) (.slice ax M cx) (.slice ay M cy) c N M (fun i => if i < n then K + 20 else K) (fun _ => K)) := hes
            obtain ⟨⟨f, g, s, t, hen, hkf, hks⟩, hlow⟩ := hes
            have HEN : Hid (En B wr W vl vr (.slice ap N cp) (.slice aq N cq) (.slice ax M cx) (.slice ay M cy) c N M f g s t) := hen
            have HKF : Hid (∀ i, i < N → (f i).2.length ≤ (fun i => if i < n then K + 20 else K) i) := hkf
            have HKS : Hid (∀ i, i < M → (s i).2.length ≤ (fun _ => K) i) := hks
            have HLOW : Hid (Below B w wr) := hlow
            obtain ⟨d2, d3, d4, d5⟩ := hen.cells
            by_cases hlt : n < N
            · have hltz : (n : Int) < (N : Int) := by omega
              obtain ⟨gp, _, curp, e1, p1, p2, p3⟩ := row_at hen.rp (pl_at hlt)
              cases e1
              obtain ⟨gq, _, curq, e1, q1, q2, q3⟩ := row_at hen.rq (pl_at hlt)
              cases e1
              obtain ⟨fa, fc, hf⟩ := own_slice (hen.ip n hlt)
              rw [hf] at p1
              have HXL : Hid ((f n).2.length ≤ K) := by have := HKF.out n hlt; show _ ≤ K; simpa using this
              have HF : Hid ((f n).1 = .slice fa (f n).2.length fc) := hf
              have HGL : Hid (n < N) := hlt
              generalize hxs : (f n).2 = xs at *
              have HXS : Hid ((f n).2 = xs) := hxs
              have HNP : Hid (NewI B wr (.slice fa xs.length fc) xs) := by have := HEN.out.ip n hlt; rw [HF.out, HXS.out] at this; exact this
              obtain ⟨wq, rfl⟩ : ∃ wq, wq = wr := ⟨_, rfl⟩
              have HEQ : Hid (En B wq W vl vr (.slice (some ⟨gp, 0, none⟩) N cp) (.slice (some ⟨gq, 0, none⟩) N cq) (.slice ax M cx) (.slice ay M cy) c N M f g s t) := HEN.out
              have HLQ : Hid (Below B w wq) := HLOW.out
              clear hen hkf hks hlow hf hxs q1 q2 HEN HES HLOW
              go_wp2_with fail
              clear d2 d3 d4 d5 p1 p2
              go_loopw [11, 10] (fun z x wr => ∃ (k : Nat) (x' : Value) (ys : List Int), k ≤ 20 ∧ z = .int .i64 k ∧ x' = x ∧ ys.length = xs.length + k ∧ NewI B wr x' ys ∧ Kept (fun b => (Value.slice fa xs.length fc).ownBlock = some b) wq wr ∧ (∀ j, x'.ownBlock = some j → (Value.slice fa xs.length fc).ownBlock = some j ∨ wq.heap.size ≤ j)) (fun z _ _ => 20 - (intOf z).toNat)
              case atStart => exact ⟨0, _, xs, by omega, rfl, rfl, rfl, HNP.out, Kept.refl _ _, fun _ e => .inl e⟩
              case round =>
                obtain ⟨k, x, ys, hk, rfl, rfl, hy, hx, hkk, hxb⟩ := hrel
                have HX : Hid (NewI B wr x ys) := hx
                have HKK : Hid (Kept (fun b => (Value.slice fa xs.length fc).ownBlock = some b) wq wr) := hkk
                have HXB : Hid (∀ j, x.ownBlock = some j → (Value.slice fa xs.length fc).ownBlock = some j ∨ wq.heap.size ≤ j) := hxb
                have HYL : Hid (ys.length = xs.length + k) := hy
                have HBS : Hid (B ≤ wr.heap.size) := Nat.le_trans HEQ.out.hB hkk.size
                by_cases hk20 : k < 20
                · have hkz : (k : Int) < 20 := by omega
                  clear hx hkk hxb
                  go_wp2_with (first
                    | (at_builtin; refine append_oneI rfl _ _ rfl B x ys (-(n : Int)) rfl HX.out rfl (by have h1 := HYL.out; have h2 := HXL.out; have h3 := HLN.out; omega) HBS.out ?_
                       intro x2 w4 hx2 hk2 hb2
                       have HX2 : Hid (NewI B w4 x2 (ys ++ [(-(n : Int))])) := hx2
                       have HK2 : Hid (Kept (fun k => x.ownBlock = some k) wr w4) := hk2
                       have HB2 : Hid (∀ j, x2.ownBlock = some j → x.ownBlock = some j ∨ wr.heap.size ≤ j) := hb2
                       clear hx2 hk2 hb2))
                  refine ⟨⟨k + 1, x2, _, by omega, by go_num, rfl, by have := HYL.out; rw [List.length_append, this]; rfl, HX2.out, HKK.out.trans HK2.out (fun i hi e => ?_), fun j hj => ?_⟩, by simp [intOf]; omega⟩
                  · rcases HXB.out i e with e | e
                    · exact e
                    · omega
                  · rcases HB2.out j hj with e | e
                    · exact HXB.out j e
                    · exact .inr (Nat.le_trans HKK.out.size e)
                · have hkz : ¬ ((k : Int) < 20) := by omega
                  have HYB : Hid (ys.length ≤ K + 20) := by have h1 := HYL.out; have h2 := HXL.out; show ys.length ≤ _; omega
                  obtain ⟨xa, nx, xc, rfl⟩ : ∃ a m c, x = .slice a m c := by obtain ⟨a, c, e⟩ := own_slice hx; exact ⟨a, _, c, e⟩
                  obtain ⟨f0, f1, f2, f3, f4⟩ := HEQ.out.far hkk (fun j e => by obtain ⟨_, _, cur, hc⟩ := own_type HNP.out j e; exact ⟨_, _, hc, .inl rfl⟩)
                  have d2 : wr.cell? ⟨W, 2, none⟩ = some (.slice (some ⟨gp, 0, none⟩) N cp) := by rw [row_cell f0]; rfl
                  have d3 : wr.cell? ⟨W, 3, none⟩ = some (.slice (some ⟨gq, 0, none⟩) N cq) := by rw [row_cell f0]; rfl
                  obtain ⟨_, _, curp, e1, p1, p2, _⟩ := row_at f1 (pl_at HGL.out)
                  cases e1
                  obtain ⟨zp, p1⟩ : ∃ z, wr.cell? ⟨gp, n, none⟩ = some z := ⟨_, p1⟩
                  obtain ⟨_, _, curq, e1, q1, q2, _⟩ := row_at f2 (pl_at HGL.out)
                  cases e1
                  have m1 : ¬ W = gq := fun e => by rw [← e] at q2; exact absurd (tag_eq q2 f0) (by decide)
                  have m2 : ¬ gp = gq := fun e => HEQ.out.dp gp rfl (by rw [e]; rfl)
                  have m3 : ¬ gq = W := fun e => m1 e.symm
                  have m4 : ¬ gq = gp := fun e => m2 e.symm
                  have hWl : W < wr.heap.size := (Array.getElem?_eq_some_iff.1 f0).1
                  have hgpl : gp < wr.heap.size := (Array.getElem?_eq_some_iff.1 p2).1
                  have hgql : gq < wr.heap.size := (Array.getElem?_eq_some_iff.1 q2).1
                  obtain ⟨zq, q1⟩ : ∃ z, wr.cell? ⟨gq, n, none⟩ = some z := ⟨_, q1⟩
                  have qf : wr.frozen? ⟨gq, n, none⟩ = false := row_frozen q2 n
                  have pf : wr.frozen? ⟨gp, n, none⟩ = false := row_frozen p2 n
                  have hWg : ¬ W = gp := fun e => by rw [← e] at p2; exact absurd (tag_eq p2 f0) (by decide)
                  have hgW : ¬ gp = W := fun e => hWg e.symm
                  obtain ⟨w2, hw2⟩ : ∃ w2, w2 = wr.setCell ⟨gp, n, none⟩ (.slice xa nx xc) := ⟨_, rfl⟩
                  have HWR : Hid (w2 = wr.setCell ⟨gp, n, none⟩ (.slice xa nx xc)) := hw2
                  have HK2 : Hid (Kept (fun k => (f n).1.ownBlock = some k ∨ (Value.slice (some ⟨gp, 0, none⟩) N cp).ownBlock = some k) wq w2) := by
                    rw [hw2]
                    exact (hkk.mono fun _ _ e => .inl (by rw [HF.out]; exact e)).trans (setCell_kept _) (fun i _ e => .inr (by rw [e]; rfl))
                  have HP2 : Hid (w2.ownsRow B 47 1 (.slice (some ⟨gp, 0, none⟩) N cp) N (pl N (at_ f n (.slice xa nx xc, ys)))) := by
                    have h := own_setN (j := n) (u := .slice xa nx xc) f1
                    rw [pl_set (x := ys) HGL.out, ← hw2] at h
                    exact h
                  have HOWN : Hid (NewI B w2 (.slice xa nx xc) ys) := by
                    rw [hw2]
                    refine own_kept hx (setCell_kept _) fun b hb e => ?_
                    rw [e] at hb
                    obtain ⟨_, _, cur, hc⟩ := own_type hx gp hb
                    exact absurd (tag_eq hc p2) (by decide)
                  have HVB : Hid (∀ k, (Value.slice xa nx xc).ownBlock = some k → (f n).1.ownBlock = some k ∨ wq.heap.size ≤ k) := fun j e => (hxb j e).imp (fun e => by rw [HF.out]; exact e) id
                  have b0 := (set_far (w := wr) (b := gp) (i := n) (.slice xa nx xc) hWg).trans f0
                  rw [← hw2] at b0
                  have e3 : w2.cell? ⟨W, 3, none⟩ = some (.slice (some ⟨gq, 0, none⟩) N cq) := by rw [row_cell b0]; rfl
                  have e1 := (set_far (w := wr) (b := gp) (i := n) (.slice xa nx xc) m4).trans q2
                  rw [← hw2] at e1
                  have HQ2 : Hid (w2.cell? ⟨gq, n, none⟩ = some zq ∧ w2.frozen? ⟨gq, n, none⟩ = false ∧ gq < w2.heap.size ∧ W < w2.heap.size) := ⟨by rw [row_cell e1, ← row_cell q2]; exact q1, row_frozen e1 n, (Array.getElem?_eq_some_iff.1 e1).1, (Array.getElem?_eq_some_iff.1 b0).1⟩
                  clear hx hkk hxb f0 f1 f2 f3 f4 p2 q2 hk20 b0 e1 q1 qf hgql hWl hgpl
                  go_wp2_with fail
                  rw [← HWR.out]
                  obtain ⟨q1, qf, hgql, hWl⟩ := HQ2.out
                  clear d2 d3 p1 pf hw2
                  obtain ⟨w3, hw3⟩ : ∃ w3, w3 = (w2.alloc (.cells #[] 3)).drew := ⟨_, rfl⟩
                  have HW3 : Hid (w3 = (w2.alloc (.cells #[] 3)).drew) := hw3
                  have HB3 : Hid (Below w2.heap.size w2 w3) := by rw [hw3]; exact (below_new w2 _).drew
                  have HE3 : Hid (w3.ownsRow w2.heap.size 3 1 (.slice (some ⟨w2.heap.size, 0, none⟩) 0 0) 0 []) := by rw [hw3]; exact World.ownsRow_made w2 #[] 0 (Nat.le_refl _) (Nat.zero_le _) rfl
                  have HI3 : Hid (IntsAt w3 (.slice xa nx xc) ys) := RowAt.own (own_here HOWN.out HB3.out)
                  have HQ1 : Hid (w2.cell? ⟨gq, n, none⟩ = some zq ∧ w2.frozen? ⟨gq, n, none⟩ = false ∧ gq < w2.heap.size) := ⟨q1, qf, hgql⟩
                  have HCL : Hid (w2.cell? ⟨W, 3, none⟩ = some (.slice (some ⟨gq, 0, none⟩) N cq) ∧ W < w2.heap.size) := ⟨e3, hWl⟩
                  clear hw3 q1 qf hgql hWl
                  go_region_held_law (fun W' => W'.cell? ⟨W, 3, none⟩ = some (.slice (some ⟨gq, 0, none⟩) N cq)) (first | go_keep | assumption | (refine ⟨?_, ?_, ?_⟩ <;> assumption)) (
                    first | (rw [← HW3.out]
                             refine step_copyI (by rfl) _ _ (by rfl) w2.heap.size w2.heap.size (by rfl) (by exact HE3.out) (.slice xa nx xc) ys (by rfl) (by exact HI3.out) (by have := HYB.out; have := HLN.out; omega) (by exact Below.size HB3.out) ?_
                             intro ad nu cu w4 hnu hn4 hg4
                             have HNU : Hid (nu = ys.length) := hnu
                             have HB4 : Hid (Below w2.heap.size w2 w4) := HB3.out.trans (grown_below HE3.out hg4 (Below.size HB3.out))
                             have HN4 : Hid (NewI w2.heap.size w4 (.slice ad nu cu) ys) := hn4
                             have k2 : w4.cell? ⟨W, 3, none⟩ = some (.slice (some ⟨gq, 0, none⟩) N cq) := (HB4.out.cell HCL.out.2).trans HCL.out.1
                             have q4 : w4.cell? ⟨gq, n, none⟩ = some zq := (HB4.out.cell HQ1.out.2.2).trans HQ1.out.1
                             have qf4 : w4.frozen? ⟨gq, n, none⟩ = false := (HB4.out.frozen HQ1.out.2.2).trans HQ1.out.2.1
                             clear hnu hn4 hg4))
                  go_wp2_with fail
                  obtain ⟨r1, r2⟩ := HEQ.out.nextI HGL.out HK2.out HP2.out HOWN.out HVB.out HB4.out HN4.out
                  refine ⟨⟨n + 1, by omega, by go_num, ⟨⟨_, _, _, _, r1, ?_, ?_⟩, HLQ.out.trans r2⟩⟩, by simp [intOf]; omega⟩
                  · exact len_at HKF.out (by have h1 := HYB.out; (try dsimp only); rw [if_pos (Nat.lt_succ_self _)]; exact h1) (fun i hi => by (try dsimp only); split <;> split <;> omega)
                  · exact HKS.out
            · have hltz : ¬ (n : Int) < (N : Int) := by omega
              have HE : Hid (Es B w wr W vl vr (.slice ap N cp) (.slice aq N cq) (.slice ax M cx) (.slice ay M cy) c N M (fun _ => K + 20) (fun _ => K)) := HES.out.wide (fun i _ => by (try dsimp only); split <;> omega) (fun _ _ => Nat.le_refl _)
              obtain ⟨wl3, rfl⟩ : ∃ wl, wl = wr := ⟨_, rfl⟩
              clear hen hkf hks hlow HES HEN HKF HKS HLOW hlt
              go_wp2_with fail
              clear d2 d3 d4 d5 hltz hn
              go_loopw [12] (fun z wr => ∃ n : Nat, n ≤ M ∧ z = .int .i64 n ∧ Es B w wr W vl vr (.slice ap N cp) (.slice aq N cq) (.slice ax M cx) (.slice ay M cy) c N M (fun _ => K + 20) (fun i => if i < n then K + 20 else K)) (fun z _ => M - (intOf z).toNat)
              case atStart => exact ⟨0, Nat.zero_le _, rfl, HE.out.wide (fun i _ => Nat.le_refl _) (fun i _ => by (try dsimp only); split <;> omega)⟩
              case round =>
                clear HE
                obtain ⟨n, hn, rfl, hes⟩ := hrel
                have HES : Hid (Es B w wr W vl vr (.slice ap N cp) (.slice aq N cq) (.slice ax M cx) (.slice ay M cy) c N M (fun _ => K + 20) (fun i => if i < n then K + 20 else K)) := hes
                obtain ⟨⟨f, g, s, t, hen, hkf, hks⟩, hlow⟩ := hes
                have HEN : Hid (En B wr W vl vr (.slice ap N cp) (.slice aq N cq) (.slice ax M cx) (.slice ay M cy) c N M f g s t) := hen
                have HKF : Hid (∀ i, i < N → (f i).2.length ≤ (fun _ => K + 20) i) := hkf
                have HKS : Hid (∀ i, i < M → (s i).2.length ≤ (fun i => if i < n then K + 20 else K) i) := hks
                have HLOW : Hid (Below B w wr) := hlow
                obtain ⟨d2, d3, d4, d5⟩ := hen.cells
                by_cases hlt : n < M
                · have hltz : (n : Int) < (M : Int) := by omega
                  obtain ⟨gp, _, curp, e1, p1, p2, p3⟩ := row_at hen.rx (pl_at hlt)
                  cases e1
                  obtain ⟨gq, _, curq, e1, q1, q2, q3⟩ := row_at hen.ry (pl_at hlt)
                  cases e1
                  obtain ⟨fa, fc, hf⟩ := own_slice (hen.ix n hlt)
                  rw [hf] at p1
                  have HXL : Hid ((s n).2.length ≤ K) := by have := HKS.out n hlt; show _ ≤ K; simpa using this
                  have HF : Hid ((s n).1 = .slice fa (s n).2.length fc) := hf
                  have HGL : Hid (n < M) := hlt
                  generalize hxs : (s n).2 = xs at *
                  have HXS : Hid ((s n).2 = xs) := hxs
                  have HNP : Hid (NewL B wr (.slice fa xs.length fc) xs) := by have := HEN.out.ix n hlt; rw [HF.out, HXS.out] at this; exact this
                  obtain ⟨wq, rfl⟩ : ∃ wq, wq = wr := ⟨_, rfl⟩
                  have HEQ : Hid (En B wq W vl vr (.slice ap N cp) (.slice aq N cq) (.slice (some ⟨gp, 0, none⟩) M cx) (.slice (some ⟨gq, 0, none⟩) M cy) c N M f g s t) := HEN.out
                  have HLQ : Hid (Below B w wq) := HLOW.out
                  clear hen hkf hks hlow hf hxs q1 q2 HEN HES HLOW
                  go_wp2_with fail
                  clear d2 d3 d4 d5 p1 p2
                  go_loopw [14, 13] (fun z x wr => ∃ (k : Nat) (x' : Value) (ys : List Lf), k ≤ 20 ∧ z = .int .i64 k ∧ x' = x ∧ ys.length = xs.length + k ∧ NewL B wr x' ys ∧ Kept (fun b => (Value.slice fa xs.length fc).ownBlock = some b) wq wr ∧ (∀ j, x'.ownBlock = some j → (Value.slice fa xs.length fc).ownBlock = some j ∨ wq.heap.size ≤ j)) (fun z _ _ => 20 - (intOf z).toNat)
                  case atStart => exact ⟨0, _, xs, by omega, rfl, rfl, rfl, HNP.out, Kept.refl _ _, fun _ e => .inl e⟩
                  case round =>
                    obtain ⟨k, x, ys, hk, rfl, rfl, hy, hx, hkk, hxb⟩ := hrel
                    have HX : Hid (NewL B wr x ys) := hx
                    have HKK : Hid (Kept (fun b => (Value.slice fa xs.length fc).ownBlock = some b) wq wr) := hkk
                    have HXB : Hid (∀ j, x.ownBlock = some j → (Value.slice fa xs.length fc).ownBlock = some j ∨ wq.heap.size ≤ j) := hxb
                    have HYL : Hid (ys.length = xs.length + k) := hy
                    have HBS : Hid (B ≤ wr.heap.size) := Nat.le_trans HEQ.out.hB hkk.size
                    by_cases hk20 : k < 20
                    · have hkz : (k : Int) < 20 := by omega
                      clear hx hkk hxb
                      go_wp2_with (first
                        | (at_builtin; refine append_oneL rfl _ _ rfl B x ys ⟨-(n : Int), 0, 0⟩ rfl HX.out rfl (by have h1 := HYL.out; have h2 := HXL.out; have h3 := HLN.out; omega) HBS.out ?_
                           intro x2 w4 hx2 hk2 hb2
                           have HX2 : Hid (NewL B w4 x2 (ys ++ [⟨-(n : Int), 0, 0⟩])) := hx2
                           have HK2 : Hid (Kept (fun k => x.ownBlock = some k) wr w4) := hk2
                           have HB2 : Hid (∀ j, x2.ownBlock = some j → x.ownBlock = some j ∨ wr.heap.size ≤ j) := hb2
                           clear hx2 hk2 hb2))
                      refine ⟨⟨k + 1, x2, _, by omega, by go_num, rfl, by have := HYL.out; rw [List.length_append, this]; rfl, HX2.out, HKK.out.trans HK2.out (fun i hi e => ?_), fun j hj => ?_⟩, by simp [intOf]; omega⟩
                      · rcases HXB.out i e with e | e
                        · exact e
                        · omega
                      · rcases HB2.out j hj with e | e
                        · exact HXB.out j e
                        · exact .inr (Nat.le_trans HKK.out.size e)
                    · have hkz : ¬ ((k : Int) < 20) := by omega
                      have HYB : Hid (ys.length ≤ K + 20) := by have h1 := HYL.out; have h2 := HXL.out; show ys.length ≤ _; omega
                      obtain ⟨xa, nx, xc, rfl⟩ : ∃ a m c, x = .slice a m c := by obtain ⟨a, c, e⟩ := own_slice hx; exact ⟨a, _, c, e⟩
                      obtain ⟨f0, f1, f2, f3, f4⟩ := HEQ.out.far hkk (fun j e => by obtain ⟨_, _, cur, hc⟩ := own_type HNP.out j e; exact ⟨_, _, hc, .inr rfl⟩)
                      have d2 : wr.cell? ⟨W, 4, none⟩ = some (.slice (some ⟨gp, 0, none⟩) M cx) := by rw [row_cell f0]; rfl
                      have d3 : wr.cell? ⟨W, 5, none⟩ = some (.slice (some ⟨gq, 0, none⟩) M cy) := by rw [row_cell f0]; rfl
                      obtain ⟨_, _, curp, e1, p1, p2, _⟩ := row_at f3 (pl_at HGL.out)
                      cases e1
                      obtain ⟨zp, p1⟩ : ∃ z, wr.cell? ⟨gp, n, none⟩ = some z := ⟨_, p1⟩
                      obtain ⟨_, _, curq, e1, q1, q2, _⟩ := row_at f4 (pl_at HGL.out)
                      cases e1
                      have m1 : ¬ W = gq := fun e => by rw [← e] at q2; exact absurd (tag_eq q2 f0) (by decide)
                      have m2 : ¬ gp = gq := fun e => HEQ.out.dx gp rfl (by rw [e]; rfl)
                      have m3 : ¬ gq = W := fun e => m1 e.symm
                      have m4 : ¬ gq = gp := fun e => m2 e.symm
                      have hWl : W < wr.heap.size := (Array.getElem?_eq_some_iff.1 f0).1
                      have hgpl : gp < wr.heap.size := (Array.getElem?_eq_some_iff.1 p2).1
                      have hgql : gq < wr.heap.size := (Array.getElem?_eq_some_iff.1 q2).1
                      obtain ⟨zq, q1⟩ : ∃ z, wr.cell? ⟨gq, n, none⟩ = some z := ⟨_, q1⟩
                      have qf : wr.frozen? ⟨gq, n, none⟩ = false := row_frozen q2 n
                      have pf : wr.frozen? ⟨gp, n, none⟩ = false := row_frozen p2 n
                      have hWg : ¬ W = gp := fun e => by rw [← e] at p2; exact absurd (tag_eq p2 f0) (by decide)
                      have hgW : ¬ gp = W := fun e => hWg e.symm
                      obtain ⟨w2, hw2⟩ : ∃ w2, w2 = wr.setCell ⟨gp, n, none⟩ (.slice xa nx xc) := ⟨_, rfl⟩
                      have HWR : Hid (w2 = wr.setCell ⟨gp, n, none⟩ (.slice xa nx xc)) := hw2
                      have HK2 : Hid (Kept (fun k => (s n).1.ownBlock = some k ∨ (Value.slice (some ⟨gp, 0, none⟩) M cx).ownBlock = some k) wq w2) := by
                        rw [hw2]
                        exact (hkk.mono fun _ _ e => .inl (by rw [HF.out]; exact e)).trans (setCell_kept _) (fun i _ e => .inr (by rw [e]; rfl))
                      have HP2 : Hid (w2.ownsRow B 39 1 (.slice (some ⟨gp, 0, none⟩) M cx) M (pl M (at_ s n (.slice xa nx xc, ys)))) := by
                        have h := own_setN (j := n) (u := .slice xa nx xc) f3
                        rw [pl_set (x := ys) HGL.out, ← hw2] at h
                        exact h
                      have HOWN : Hid (NewL B w2 (.slice xa nx xc) ys) := by
                        rw [hw2]
                        refine own_kept hx (setCell_kept _) fun b hb e => ?_
                        rw [e] at hb
                        obtain ⟨_, _, cur, hc⟩ := own_type hx gp hb
                        exact absurd (tag_eq hc p2) (by decide)
                      have HVB : Hid (∀ k, (Value.slice xa nx xc).ownBlock = some k → (s n).1.ownBlock = some k ∨ wq.heap.size ≤ k) := fun j e => (hxb j e).imp (fun e => by rw [HF.out]; exact e) id
                      have b0 := (set_far (w := wr) (b := gp) (i := n) (.slice xa nx xc) hWg).trans f0
                      rw [← hw2] at b0
                      have e3 : w2.cell? ⟨W, 5, none⟩ = some (.slice (some ⟨gq, 0, none⟩) M cy) := by rw [row_cell b0]; rfl
                      have e1 := (set_far (w := wr) (b := gp) (i := n) (.slice xa nx xc) m4).trans q2
                      rw [← hw2] at e1
                      have HQ2 : Hid (w2.cell? ⟨gq, n, none⟩ = some zq ∧ w2.frozen? ⟨gq, n, none⟩ = false ∧ gq < w2.heap.size ∧ W < w2.heap.size) := ⟨by rw [row_cell e1, ← row_cell q2]; exact q1, row_frozen e1 n, (Array.getElem?_eq_some_iff.1 e1).1, (Array.getElem?_eq_some_iff.1 b0).1⟩
                      clear hx hkk hxb f0 f1 f2 f3 f4 p2 q2 hk20 b0 e1 q1 qf hgql hWl hgpl
                      go_wp2_with fail
                      rw [← HWR.out]
                      obtain ⟨q1, qf, hgql, hWl⟩ := HQ2.out
                      clear d2 d3 p1 pf hw2
                      obtain ⟨w3, hw3⟩ : ∃ w3, w3 = (w2.alloc (.cells #[] 34)).drew := ⟨_, rfl⟩
                      have HW3 : Hid (w3 = (w2.alloc (.cells #[] 34)).drew) := hw3
                      have HB3 : Hid (Below w2.heap.size w2 w3) := by rw [hw3]; exact (below_new w2 _).drew
                      have HE3 : Hid (w3.ownsRow w2.heap.size 34 3 (.slice (some ⟨w2.heap.size, 0, none⟩) 0 0) 0 []) := by rw [hw3]; exact World.ownsRow_made w2 #[] 0 (Nat.le_refl _) (Nat.zero_le _) rfl
                      have HI3 : Hid (LivesAt w3 (.slice xa nx xc) ys) := RowAt.own (own_here HOWN.out HB3.out)
                      have HQ1 : Hid (w2.cell? ⟨gq, n, none⟩ = some zq ∧ w2.frozen? ⟨gq, n, none⟩ = false ∧ gq < w2.heap.size) := ⟨q1, qf, hgql⟩
                      have HCL : Hid (w2.cell? ⟨W, 5, none⟩ = some (.slice (some ⟨gq, 0, none⟩) M cy) ∧ W < w2.heap.size) := ⟨e3, hWl⟩
                      clear hw3 q1 qf hgql hWl
                      go_region_held_law (fun W' => W'.cell? ⟨W, 5, none⟩ = some (.slice (some ⟨gq, 0, none⟩) M cy)) (first | go_keep | assumption | (refine ⟨?_, ?_, ?_⟩ <;> assumption)) (
                        first | (rw [← HW3.out]
                                 refine step_copyL (by rfl) _ _ (by rfl) w2.heap.size w2.heap.size (by rfl) (by exact HE3.out) (.slice xa nx xc) ys (by rfl) (by exact HI3.out) (by have := HYB.out; have := HLN.out; omega) (by exact Below.size HB3.out) ?_
                                 intro ad nu cu w4 hnu hn4 hg4
                                 have HNU : Hid (nu = ys.length) := hnu
                                 have HB4 : Hid (Below w2.heap.size w2 w4) := HB3.out.trans (grown_below HE3.out hg4 (Below.size HB3.out))
                                 have HN4 : Hid (NewL w2.heap.size w4 (.slice ad nu cu) ys) := hn4
                                 have k2 : w4.cell? ⟨W, 5, none⟩ = some (.slice (some ⟨gq, 0, none⟩) M cy) := (HB4.out.cell HCL.out.2).trans HCL.out.1
                                 have q4 : w4.cell? ⟨gq, n, none⟩ = some zq := (HB4.out.cell HQ1.out.2.2).trans HQ1.out.1
                                 have qf4 : w4.frozen? ⟨gq, n, none⟩ = false := (HB4.out.frozen HQ1.out.2.2).trans HQ1.out.2.1
                                 clear hnu hn4 hg4))
                      go_wp2_with fail
                      obtain ⟨r1, r2⟩ := HEQ.out.nextL HGL.out HK2.out HP2.out HOWN.out HVB.out HB4.out HN4.out
                      refine ⟨⟨n + 1, by omega, by go_num, ⟨⟨_, _, _, _, r1, ?_, ?_⟩, HLQ.out.trans r2⟩⟩, by simp [intOf]; omega⟩
                      · exact HKF.out
                      · exact len_at HKS.out (by have h1 := HYB.out; (try dsimp only); rw [if_pos (Nat.lt_succ_self _)]; exact h1) (fun i hi => by (try dsimp only); split <;> split <;> omega)
                · have hltz : ¬ (n : Int) < (M : Int) := by omega
                  have HE : Hid (Es B w wr W vl vr (.slice ap N cp) (.slice aq N cq) (.slice ax M cx) (.slice ay M cy) c N M (fun _ => K + 20) (fun _ => K + 20)) := HES.out.wide (fun _ _ => Nat.le_refl _) (fun i _ => by (try dsimp only); split <;> omega)
                  obtain ⟨wl4, rfl⟩ : ∃ wl, wl = wr := ⟨_, rfl⟩
                  clear hen hkf hks hlow HES HEN HKF HKS HLOW hlt
                  go_wp2_with fail
                  clear d2 d3 d4 d5 hltz hn
                  go_loopw [15] (fun z wr => ∃ n : Nat, n ≤ N ∧ z = .int .i64 n ∧ Es B w wr W vl vr (.slice ap N cp) (.slice aq N cq) (.slice ax M cx) (.slice ay M cy) c N M (fun _ => K + 20) (fun _ => K + 20)) (fun z _ => N - (intOf z).toNat)
                  case atStart => exact ⟨0, Nat.zero_le _, rfl, HE.out⟩
                  case round =>
                    clear HE
                    obtain ⟨n, hn, rfl, hes⟩ := hrel
                    have HES : Hid (Es B w wr W vl vr (.slice ap N cp) (.slice aq N cq) (.slice ax M cx) (.slice ay M cy) c N M (fun _ => K + 20) (fun _ => K + 20)) := hes
                    obtain ⟨⟨f, g, s, t, hen, hkf, hks⟩, hlow⟩ := hes
                    have HEN : Hid (En B wr W vl vr (.slice ap N cp) (.slice aq N cq) (.slice ax M cx) (.slice ay M cy) c N M f g s t) := hen
                    have HKF : Hid (∀ i, i < N → (f i).2.length ≤ (fun _ => K + 20) i) := hkf
                    have HKS : Hid (∀ i, i < M → (s i).2.length ≤ (fun _ => K + 20) i) := hks
                    have HLOW : Hid (Below B w wr) := hlow
                    obtain ⟨d2, d3, d4, d5⟩ := hen.cells
                    by_cases hlt : n < N
                    · have hltz : (n : Int) < (N : Int) := by omega
                      obtain ⟨gp, _, curp, e1, p1, p2, p3⟩ := row_at hen.rp (pl_at hlt)
                      cases e1
                      obtain ⟨gq, _, curq, e1, q1, q2, q3⟩ := row_at hen.rq (pl_at hlt)
                      cases e1
                      obtain ⟨fa, fc, hf⟩ := own_slice (hen.ip n hlt)
                      obtain ⟨ga, gc, hg⟩ := own_slice (hen.iq n hlt)
                      rw [hf] at p1
                      rw [hg] at q1
                      have HXL : Hid ((f n).2.length ≤ K + 20) := HKF.out n hlt
                      have HSN : Hid (∀ q, Calls Try.prog 19 #[.slice fa (f n).2.length fc, .slice ga (g n).2.length gc] (wr.drewN q) fun e w' => e = .returned (.bool true) ∧ ∃ p, w' = (wr.drewN q).drewN p) := fun q => by
                        have := (HEN.out.below (below_draws (Below.refl _ _) q)).same_p hlt (by have := HXL.out; have := HLN.out; omega)
                        rw [hf, hg] at this
                        exact this
                      have HF : Hid ((f n).1 = .slice fa (f n).2.length fc) := hf
                      have HGL : Hid (n < N) := hlt
                      generalize hxs : (f n).2 = xs at *
                      generalize hys : (g n).2.length = yl at *
                      have HXS : Hid ((f n).2 = xs) := hxs
                      obtain ⟨wi, rfl⟩ : ∃ wi, wi = wr := ⟨_, rfl⟩
                      clear hen hkf hks hlow hf hg hxs hys
                      go_wp2_with fail
                      go_quiet ((go_at_call 19; exact Calls.quiet_of (HSN.out _)))
                      obtain ⟨wq, hwq⟩ : ∃ wq, wq = wi.drewN nq := ⟨_, rfl⟩
                      have HBQ : Hid (Below wi.heap.size wi wq) := by rw [hwq]; exact below_draws (Below.refl _ _) nq
                      rw [← hwq]
                      have HEQ : Hid (En B wq W vl vr (.slice (some ⟨gp, 0, none⟩) N cp) (.slice (some ⟨gq, 0, none⟩) N cq) (.slice ax M cx) (.slice ay M cy) c N M f g s t) := HEN.out.below HBQ.out
                      have HLQ : Hid (Below B w wq) := HLOW.out.trans (HBQ.out.mono HEN.out.hB)
                      clear hwq HEN HES HLOW HSN d2 d3 d4 d5 p1 q1 p2 q2
                      go_wp2_with fail
                      exact ⟨⟨n + 1, by omega, by go_num, ⟨⟨_, _, _, _, HEQ.out, HKF.out, HKS.out⟩, HLQ.out⟩⟩, by simp [intOf]; omega⟩
                    · have hltz : ¬ (n : Int) < (N : Int) := by omega
                      have HE : Hid (Es B w wr W vl vr (.slice ap N cp) (.slice aq N cq) (.slice ax M cx) (.slice ay M cy) c N M (fun _ => K + 20) (fun _ => K + 20)) := HES.out
                      obtain ⟨wl5, rfl⟩ : ∃ wl, wl = wr := ⟨_, rfl⟩
                      clear hen hkf hks hlow HES HEN HKF HKS HLOW hlt
                      go_wp2_with fail
                      clear d2 d3 d4 d5 hltz hn
                      go_loopw [17] (fun z wr => ∃ n : Nat, n ≤ M ∧ z = .int .i64 n ∧ Es B w wr W vl vr (.slice ap N cp) (.slice aq N cq) (.slice ax M cx) (.slice ay M cy) c N M (fun _ => K + 20) (fun _ => K + 20)) (fun z _ => M - (intOf z).toNat)
                      case atStart => exact ⟨0, Nat.zero_le _, rfl, HE.out⟩
                      case round =>
                        clear HE
                        obtain ⟨n, hn, rfl, hes⟩ := hrel
                        have HES : Hid (Es B w wr W vl vr (.slice ap N cp) (.slice aq N cq) (.slice ax M cx) (.slice ay M cy) c N M (fun _ => K + 20) (fun _ => K + 20)) := hes
                        obtain ⟨⟨f, g, s, t, hen, hkf, hks⟩, hlow⟩ := hes
                        have HEN : Hid (En B wr W vl vr (.slice ap N cp) (.slice aq N cq) (.slice ax M cx) (.slice ay M cy) c N M f g s t) := hen
                        have HKF : Hid (∀ i, i < N → (f i).2.length ≤ (fun _ => K + 20) i) := hkf
                        have HKS : Hid (∀ i, i < M → (s i).2.length ≤ (fun _ => K + 20) i) := hks
                        have HLOW : Hid (Below B w wr) := hlow
                        obtain ⟨d2, d3, d4, d5⟩ := hen.cells
                        by_cases hlt : n < M
                        · have hltz : (n : Int) < (M : Int) := by omega
                          obtain ⟨gp, _, curp, e1, p1, p2, p3⟩ := row_at hen.rx (pl_at hlt)
                          cases e1
                          obtain ⟨gq, _, curq, e1, q1, q2, q3⟩ := row_at hen.ry (pl_at hlt)
                          cases e1
                          obtain ⟨fa, fc, hf⟩ := own_slice (hen.ix n hlt)
                          obtain ⟨ga, gc, hg⟩ := own_slice (hen.iy n hlt)
                          rw [hf] at p1
                          rw [hg] at q1
                          have HXL : Hid ((s n).2.length ≤ K + 20) := HKS.out n hlt
                          have HSN : Hid (∀ q, Calls Try.prog 13 #[.slice fa (s n).2.length fc, .slice ga (t n).2.length gc] (wr.drewN q) fun e w' => e = .returned (.bool true) ∧ ∃ p, w' = (wr.drewN q).drewN p) := fun q => by
                            have := (HEN.out.below (below_draws (Below.refl _ _) q)).same_x hlt (by have := HXL.out; have := HLN.out; omega)
                            rw [hf, hg] at this
                            exact this
                          have HF : Hid ((s n).1 = .slice fa (s n).2.length fc) := hf
                          have HGL : Hid (n < M) := hlt
                          generalize hxs : (s n).2 = xs at *
                          generalize hys : (t n).2.length = yl at *
                          have HXS : Hid ((s n).2 = xs) := hxs
                          obtain ⟨wi, rfl⟩ : ∃ wi, wi = wr := ⟨_, rfl⟩
                          clear hen hkf hks hlow hf hg hxs hys
                          go_wp2_with fail
                          go_quiet ((go_at_call 13; exact Calls.quiet_of (HSN.out _)))
                          obtain ⟨wq, hwq⟩ : ∃ wq, wq = wi.drewN nq := ⟨_, rfl⟩
                          have HBQ : Hid (Below wi.heap.size wi wq) := by rw [hwq]; exact below_draws (Below.refl _ _) nq
                          rw [← hwq]
                          have HEQ : Hid (En B wq W vl vr (.slice ap N cp) (.slice aq N cq) (.slice (some ⟨gp, 0, none⟩) M cx) (.slice (some ⟨gq, 0, none⟩) M cy) c N M f g s t) := HEN.out.below HBQ.out
                          have HLQ : Hid (Below B w wq) := HLOW.out.trans (HBQ.out.mono HEN.out.hB)
                          clear hwq HEN HES HLOW HSN d2 d3 d4 d5 p1 q1 p2 q2
                          go_wp2_with fail
                          exact ⟨⟨n + 1, by omega, by go_num, ⟨⟨_, _, _, _, HEQ.out, HKF.out, HKS.out⟩, HLQ.out⟩⟩, by simp [intOf]; omega⟩
                        · have hltz : ¬ (n : Int) < (M : Int) := by omega
                          clear hen hkf hks HES HEN HKF HKS hlt
                          go_wp2_with fail
                          go_ret
                          exact ⟨rfl, HLOW.out⟩
end Go.Proofs.Ytcfmcakdgamdmaa
