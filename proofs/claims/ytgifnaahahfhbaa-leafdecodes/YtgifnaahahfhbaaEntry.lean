/- The reader's entry. -/
import Derived.Test.YtgifnaahahfhbaaConcat
import Derived.RegionDies
namespace Go.Proofs.Ytgifnaahahfhbaa
open Go.RowKit

/-- What stays while bytes are read: all below a border, and the two results' cells. -/
structure Fr (B : Nat) (w w' : World) : Prop where
  low : Below B w w'
  typ : ∀ (k : Nat) (cur : Array Value) (t : TypeId) z, (t = 25 ∨ t = 24) → w.heap[k]? = some (Obj.cells cur t z) → w'.heap[k]? = some (Obj.cells cur t z)
theorem Fr.refl (B : Nat) (w : World) : Fr B w w := ⟨Below.refl _ _, fun _ _ _ _ _ h => h⟩
theorem Fr.trans {B : Nat} {a b c : World} (h : Fr B a b) (k : Fr B b c) : Fr B a c := ⟨h.low.trans k.low, fun i cur t z ht hi => k.typ i cur t z ht (h.typ i cur t z ht hi)⟩
theorem Fr.of {B : Nat} {w w' : World} (h : Below w.heap.size w w') (hB : B ≤ w.heap.size) : Fr B w w' := ⟨h.mono hB, fun k cur t z _ hk => by rw [h.block k (Array.getElem?_eq_some_iff.1 hk).1]; exact hk⟩
theorem Fr.keep {T B B' : Nat} {w w' : World} (h : Keep T B' w w') (hB : B ≤ B') (h1 : 25 ≠ T) (h2 : 24 ≠ T) : Fr B w w' := ⟨h.low.mono hB, fun k cur t z ht hk => h.typ k cur t z (by rcases ht with rfl | rfl; exact h1; exact h2) hk⟩
theorem Fr.keeps {B B' : Nat} {w w' : World} (h : Keeps B' w w') (hB : B ≤ B') : Fr B w w' := ⟨h.low.mono hB, fun k cur t z ht hk => h.typ k cur t z (by rcases ht with rfl | rfl <;> decide) hk⟩
theorem RBox.keep {T B g : Nat} {w w' : World} {v : Value} (h : RBox w g v) (hk : Keep T B w w') (hT : 68 ≠ T) : RBox w' g v := ⟨hk.typ _ _ _ _ hT h.row⟩
theorem RBox.keeps {B g : Nat} {w w' : World} {v : Value} (h : RBox w g v) (hk : Keeps B w w') : RBox w' g v := ⟨hk.typ _ _ _ _ (by decide) h.row⟩
theorem RBox.here {g : Nat} {w w' : World} {v : Value} (h : RBox w g v) (hb : Below w.heap.size w w') : RBox w' g v := ⟨by rw [hb.block g h.lt]; exact h.row⟩
theorem prevK_last {l : List En} {e : En} (h : l.getLast? = some e) : prevK l l.length = e.k := by
  obtain ⟨l', rfl⟩ : ∃ l', l = l' ++ [e] := by
    rw [List.getLast?_eq_some_iff] at h; exact h
  rw [List.length_append]
  exact prevK_succ (by simp)

theorem NewKey.shape {base : Nat} {w : World} {v : Value} {ks : Key} (h : NewKey base w v ks) : ∃ a n c, v = .slice a n c := by
  obtain ⟨⟨a, c, e, _⟩, _⟩ := h.at; exact ⟨a, _, c, e⟩
theorem read1_none {p r : Key} (h : r.length < 6) : read1 p r = none := by unfold read1; rw [if_pos h]
theorem read1_some {p r : Key} (h : 6 ≤ r.length) : read1 p r = if num2 r ≤ p.length ∧ num2 (r.drop 2) + num2 (r.drop 4) ≤ (r.drop 6).length then some (num2 r, ⟨p.take (num2 r) ++ (r.drop 6).take (num2 (r.drop 2)), ((r.drop 6).drop (num2 (r.drop 2))).take (num2 (r.drop 4))⟩, (r.drop 6).drop (num2 (r.drop 2) + num2 (r.drop 4))) else none := by
  unfold read1; rw [if_neg (by omega)]
theorem num2_lt (b : Key) : num2 b < 65536 := by
  have h1 := (b.getD 0 0).toNat_lt
  have h2 := (b.getD 1 0).toNat_lt
  unfold num2; omega
/-- The key ahead of what is read next. -/
theorem ahead_of {base : Nat} {w : World} {vl : Value} {F : List It} (hF : NewList base w vl F) (h : F ≠ []) : ∃ x, F[F.length - 1]? = some x ∧ prevK (F.map It.e) F.length = x.e.k ∧ NewKey base w x.v1 x.e.k := by
  obtain ⟨F', x, rfl⟩ : ∃ F' x, F = F' ++ [x] := ⟨F.dropLast, F.getLast h, (List.dropLast_concat_getLast h).symm⟩
  refine ⟨x, by simp, ?_, (hF.ents x (by simp)).k⟩
  rw [List.length_append]
  exact prevK_succ (by simp)
theorem prevK_push (l : List En) (e : En) : prevK (l ++ [e]) l.length = prevK l l.length := by
  unfold prevK
  generalize ([] : Key) = p
  induction l generalizing p with
  | nil => rfl
  | cons x r ih => simp only [List.length_cons, List.cons_append, prevF]; exact ih x.k

set_option maxHeartbeats 3200000 in
set_option maxRecDepth 100000 in
theorem entry_any {B base : Nat} {w : World} {g : Nat} {v vl : Value} {r : Key} {F : List It} (hr : RBox w g v) (hBg : B ≤ g) (hv : KeyIn B w v r) (hF : NewList base w vl F) (hB : B ≤ base) (hb : base ≤ w.heap.size) (hF2 : F.length ≤ 65536) (hr2 : r.length ≤ 65536) :
    Calls Try.prog 44 #[.pointer (some ⟨g, 0, none⟩), vl] w fun e w' => Fr B w w' ∧
      ((e = .panicked gaveUp ∧ ∀ s x r', read1 (prevK (F.map It.e) F.length) r = some (s, x, r') → comK (prevK (F.map It.e) F.length) x.k ≠ s) ∨
       ∃ s y r' v' vl', e = .returned vl' ∧ read1 (prevK (F.map It.e) F.length) r = some (s, y.e, r') ∧ comK (prevK (F.map It.e) F.length) y.e.k = s ∧ RBox w' g v' ∧ KeyIn B w' v' r' ∧ NewList base w' vl' (F ++ [y])) := by
  have HR : Hid (RBox w g v) := hr
  have HV : Hid (KeyIn B w v r) := hv
  have HF : Hid (NewList base w vl F) := hF
  have hBw : B ≤ w.heap.size := Nat.le_trans hB hb
  obtain ⟨aF, cF, rfl⟩ := (hF.list (by omega)).form
  obtain ⟨p, hp⟩ : ∃ p, p = prevK (F.map It.e) F.length := ⟨_, rfl⟩
  have HP : Hid (p = prevK (F.map It.e) F.length) := hp
  rw [← hp]
  have HU : Hid (Fr B w w → (∀ s x r', read1 p r = some (s, x, r') → comK p x.k ≠ s) → True) := fun _ _ => trivial
  clear hr hv hF hp HU
  by_cases h2 : r.length < 2
  · go_enter Try.func44, Try.ntmps44
    go_wp2_with fail
    refine (number_up HR.out HV.out h2).mono ?_
    rintro e w1 ⟨rfl, hw1⟩
    obtain rfl := hw1
    exact ⟨rfl, Fr.refl _ _, .inl ⟨rfl, fun s x r' h => by rw [read1_none (by omega)] at h; cases h⟩⟩
  by_cases h4 : r.length < 4
  · go_enter Try.func44, Try.ntmps44
    go_wp2_with fail
    refine (number_ok HR.out hBg HV.out (by omega)).mono ?_
    rintro e w1 ⟨rfl, v1, hr1, hv1, hk1⟩
    have HK1 : Hid _ := hk1
    have HN : (Calls Try.prog 43 #[.pointer (some ⟨g, 0, none⟩)] w1 fun e w' => e = .panicked gaveUp ∧ w' = w1) := number_up hr1 hv1 (by simp; omega)
    clear hr1 hv1 hk1
    go_wp2_with fail
    refine HN.mono ?_
    rintro e w2 ⟨rfl, hw2⟩
    obtain rfl := hw2
    exact ⟨rfl, Fr.keep HK1.out (Nat.le_refl _) (by decide) (by decide), .inl ⟨rfl, fun s x r' h => by rw [read1_none (by omega)] at h; cases h⟩⟩
  by_cases h6 : r.length < 6
  · go_enter Try.func44, Try.ntmps44
    go_wp2_with fail
    refine (number_ok HR.out hBg HV.out (by omega)).mono ?_
    rintro e w1 ⟨rfl, v1, hr1, hv1, hk1⟩
    have HK1 : Hid _ := hk1
    have HN := number_ok hr1 hBg hv1 (by simp; omega)
    clear hr1 hv1 hk1
    go_wp2_with fail
    refine HN.mono ?_
    rintro e w2 ⟨rfl, v2, hr2, hv2, hk2⟩
    have HK2 : Hid _ := HK1.out.trans hk2
    have HN3 : (Calls Try.prog 43 #[.pointer (some ⟨g, 0, none⟩)] w2 fun e w' => e = .panicked gaveUp ∧ w' = w2) := number_up hr2 hv2 (by simp; omega)
    clear hr2 hv2 hk2
    go_wp2_with fail
    refine HN3.mono ?_
    rintro e w3 ⟨rfl, hw3⟩
    obtain rfl := hw3
    exact ⟨rfl, Fr.keep HK2.out (Nat.le_refl _) (by decide) (by decide), .inl ⟨rfl, fun s x r' h => by rw [read1_none (by omega)] at h; cases h⟩⟩
  have HRS : Hid _ := read1_some (p := p) (r := r) (by omega)
  go_enter Try.func44, Try.ntmps44
  go_wp2_with fail
  refine (number_ok HR.out hBg HV.out (by omega)).mono ?_
  rintro e w1 ⟨rfl, v1, hr1, hv1, hk1⟩
  have HK1 : Hid _ := hk1
  have HN := number_ok hr1 hBg hv1 (by simp; omega)
  clear hr1 hv1 hk1
  go_wp2_with fail
  refine HN.mono ?_
  rintro e w2 ⟨rfl, v2, hr2, hv2, hk2⟩
  have HK2 : Hid _ := HK1.out.trans hk2
  have HN3 := number_ok hr2 hBg hv2 (by simp; omega)
  clear hr2 hv2 hk2
  go_wp2_with fail
  refine HN3.mono ?_
  rintro e w3 ⟨rfl, v3, hr3, hv3, hk3⟩
  have HK3 : Hid _ := HK2.out.trans hk3
  have HR3 : Hid (RBox w3 g v3) := hr3
  have HV3 : Hid (KeyIn B w3 v3 (r.drop 6)) := by rw [List.drop_drop, List.drop_drop] at hv3; exact hv3
  have HS4 : Hid ((r.drop 2).drop 2 = r.drop 4) := by rw [Hid, List.drop_drop]
  rw [HS4.out]
  clear hr3 hv3 hk3 HN HN3
  have hs1 := num2_lt r
  have hs2 := num2_lt (r.drop 2)
  have hs3 := num2_lt (r.drop 4)
  obtain ⟨R, hR⟩ : ∃ R, R = r.drop 6 := ⟨_, rfl⟩
  rw [← hR] at HRS HV3
  generalize num2 r = s at *
  generalize num2 (r.drop 2) = n at *
  generalize num2 (r.drop 4) = l at *
  have hRl : R.length ≤ 65536 := by rw [hR]; simp; omega
  clear hR h2 h4 h6
  have HF3 : Hid (NewList base w3 (.slice aF F.length cF) F) := HF.out.keep HK3.out (by decide) (by decide)
  obtain ⟨au, hau, hcase⟩ : ∃ au, NewKey base w3 au p ∧ ((F.length = 0 ∧ au = .slice none 0 0) ∨ ∃ m gF oF, F.length = m + 1 ∧ aF = some ⟨gF, oF, none⟩ ∧ w3.cell? ⟨gF, oF + m * 2, none⟩ = some au) := by
    by_cases hF0 : F = []
    · refine ⟨.slice none 0 0, ?_, .inl ⟨by rw [hF0]; rfl, rfl⟩⟩
      have : p = [] := by rw [HP.out, hF0]; rfl
      rw [this]; exact NewKey.nil _ _
    · obtain ⟨x, hx, hpx, hkx⟩ := ahead_of HF3.out hF0
      have hl : F.length = (F.length - 1) + 1 := by
        cases F with
        | nil => exact absurd rfl hF0
        | cons a b => simp
      obtain ⟨gF, oF, cF', e1, k0, _⟩ := (HF3.out.list (by omega)).cells (F.length - 1) x hx
      cases e1
      refine ⟨x.v1, by rw [HP.out, hpx]; exact hkx, .inr ⟨F.length - 1, gF, oF, hl, rfl, k0⟩⟩
  have HAU : Hid (NewKey base w3 au p) := hau
  obtain ⟨⟨aA, cA, rfl, _, hpc, hpn⟩, hps⟩ := hau.at
  have HPC : Hid (p.length ≤ cA ∧ (aA = none → cA = 0)) := ⟨hpc, hpn⟩
  clear hau hpc hpn
  have hfr3 : Hid (Fr B w w3) := Fr.keep HK3.out (Nat.le_refl _) (by decide) (by decide)
  by_cases hsp : s ≤ p.length
  · have hspz : (s : Int) ≤ (p.length : Int) := by omega
    have hsc : s ≤ cA := by have := HPC.out.1; omega
    rcases hcase with ⟨hF0, hnl⟩ | ⟨m, gF, oF, hFm, rfl, k0⟩
    · injection hnl with ea ep ec
      subst ea ec
      obtain rfl : p = [] := List.eq_nil_of_length_eq_zero ep
      clear ep
      obtain rfl : s = 0 := by simpa using hsp
      have hz1 : ¬ (0 : Int) < (F.length : Int) := by omega
      have hz4 : ¬ 0 < F.length := by omega
      have HF0 : Hid (F.length = 0) := hF0
      clear hF0
      go_wp2_with (go_at_call 42; refine (must_true _).mono ?_; rintro e w4 ⟨rfl, hw4⟩; have hw5 := hw4.symm; subst hw5)
      by_cases hnR : n ≤ R.length
      · have HTK := take_ok (w := w3.drew) (B := B) (g := g) (v := v3) (r := R) (n := n) ⟨HR3.out.row⟩ hBg (HV3.out.below ((Below.refl _ _).drew)) hnR
        go_region_held_law (fun _ => True) (first | go_keep | trivial)
          (first
            | (go_at_call 62; refine HTK.mono ?_; rintro e w4 ⟨u, v4, rfl, hu, hr4, hv4, hk4⟩
               obtain ⟨aU, cU, eU⟩ := hu.form
               rw [List.length_take, Nat.min_eq_left hnR] at eU
               subst eU
               have HU4 : Hid (KeyIn B w4 (.slice aU n cU) (R.take n)) := hu
               have HR4 : Hid (RBox w4 g v4) := hr4
               have HV4 : Hid (KeyIn B w4 v4 (R.drop n)) := hv4
               have HK4 : Hid (Keep 68 B w3 w4) := (Keep.of ((Below.refl _ _).drew) (Nat.le_trans hBw HK3.out.low.size)).trans hk4
               clear hu hr4 hv4 hk4)
            | (go_at_call 63
               have hbn : Below w4.heap.size w4 (w4.alloc (.cells #[.slice none 0 0, .slice aU n cU] 39)) := below_new _ _
               have hc := concatB_any (w := w4.alloc (.cells #[.slice none 0 0, .slice aU n cU] 39)) (g := w4.heap.size) (n := 2) (K := [(.slice none 0 0, []), (.slice aU n cU, R.take n)]) ⟨_, heap_alloc_last _ _, rfl⟩ rfl (by decide) (fun x hx => by
                 simp only [List.mem_cons, List.not_mem_nil, or_false] at hx
                 rcases hx with rfl | rfl
                 · exact KeyAt.nil _
                 · exact (HU4.out.at (Nat.le_trans hBw (Nat.le_trans HK3.out.low.size HK4.out.low.size))).here hbn) (by simp [allOf]; omega)
               refine hc.mono ?_; rintro e w5 ⟨vk, rfl, hvk, hb5⟩
               have e0 : allOf [(Value.slice none 0 0, []), (Value.slice aU n cU, R.take n)] = [] ++ R.take n := by simp [allOf]
               rw [e0] at hvk
               have HVK : Hid (NewKey w4.heap.size w5 vk ([] ++ R.take n)) := hvk.mono hbn.size
               have HB5 : Hid (Below w4.heap.size w4 w5) := hbn.trans (hb5.mono hbn.size)
               clear hc hvk hb5
               obtain ⟨aK, lK, cK, eK⟩ := HVK.out.shape
               subst eK))
        have hB4 : B ≤ w4.heap.size := Nat.le_trans hBw (Nat.le_trans HK3.out.low.size HK4.out.low.size)
        have hb4 : base ≤ w4.heap.size := Nat.le_trans hb (Nat.le_trans HK3.out.low.size HK4.out.low.size)
        have HR5 : Hid (RBox w5 g v4) := HR4.out.here HB5.out
        have HV5 : Hid (KeyIn B w5 v4 (R.drop n)) := HV4.out.below (HB5.out.mono hB4)
        have HF5 : Hid (NewList base w5 (.slice aF F.length cF) F) := (HF3.out.keep HK4.out (by decide) (by decide)).here HB5.out
        have HFR5 : Hid (Fr B w w5) := hfr3.out.trans ((Fr.keep HK4.out (Nat.le_refl _) (by decide) (by decide)).trans (Fr.of HB5.out hB4))
        have HBLK : Hid (∀ b ∈ blocks F, b < w4.heap.size) := fun b hb' => Nat.lt_of_lt_of_le (blocks_lt HF3.out.ents hb').1 HK4.out.low.size
        have hw45 := HB5.out.size
        clear HTK
        by_cases hlR : l ≤ (R.drop n).length
        · have HTK := take_ok (n := l) HR5.out hBg HV5.out hlR
          have hlz : n + l ≤ R.length := by simp at hlR; omega
          go_wp2_with (first
            | (go_at_call 62; refine HTK.mono ?_; rintro e w6 ⟨u6, v6, rfl, hu6, hr6, hv6, hk6⟩
               have HU6 : Hid (KeyIn B w6 u6 ((R.drop n).take l)) := hu6
               have HR6 : Hid (RBox w6 g v6) := hr6
               have HV6 : Hid (KeyIn B w6 v6 ((R.drop n).drop l)) := hv6
               have HK6 : Hid (Keep 68 B w5 w6) := hk6
               have hw6 := hk6.low.size
               clear hu6 hr6 hv6 hk6)
            | (at_builtin; refine wpList_append_key rfl _ _ rfl w6.heap.size (.slice none 0 0) _ [] ((R.drop n).take l) rfl (NewKey.nil _ _) rfl (HU6.out.at (by omega)) (by simp; omega) (Nat.le_refl _) ?_
               intro vv w7 hvv hk7
               have HVV : Hid (NewKey w6.heap.size w7 vv ((R.drop n).take l)) := hvv
               have HB7 : Hid (Below w6.heap.size w6 w7) := hk7.low
               have hw7 := hk7.low.size
               clear hvv hk7
               obtain ⟨aV, lV, cV, eV⟩ := HVV.out.shape
               subst eV
               have HVK7 : Hid (NewKey w4.heap.size w7 (.slice aK lK cK) ([] ++ R.take n)) := (HVK.out.keep HK6.out (by decide)).here HB7.out
               have HF7 : Hid (NewList base w7 (.slice aF F.length cF) F) := (HF5.out.keep HK6.out (by decide) (by decide)).here HB7.out
               have HY7 : Hid (NewEnt base w7 ⟨.slice aK lK cK, .slice aV lV cV, ⟨[] ++ R.take n, (R.drop n).take l⟩⟩) :=
                 ⟨HVK7.out.mono hb4, HVV.out.mono (by omega), fun b e1 e2 => by
                   have h1 := (own_type HVK.out.own b e1).1
                   have h2 := (own_type HVV.out.own b e2).2.1
                   omega⟩
               have HAP : Hid (∀ b ∈ blocks [⟨.slice aK lK cK, .slice aV lV cV, ⟨[] ++ R.take n, (R.drop n).take l⟩⟩], b ∉ blocks F) := fun b hb1 hb2 => by
                 have h0 := HBLK.out b hb2
                 obtain ⟨z, hz, h' | h'⟩ := mem_blocks hb1 <;> simp at hz <;> subst hz
                 · have := (own_type HVK.out.own b h').2.1; omega
                 · have := (own_type HVV.out.own b h').2.1; omega)
            | (at_builtin
               have hbn : Below w7.heap.size w7 (w7.alloc (.cells #[.slice aK lK cK, .slice aV lV cV] 47)) := below_new _ _
               refine wpList_append_rows rfl _ _ rfl base (.slice aF F.length cF) _ F [⟨.slice aK lK cK, .slice aV lV cV, ⟨[] ++ R.take n, (R.drop n).take l⟩⟩] rfl (HF7.out.here hbn).own rfl (list_one w7 _ HY7.out.ok) (by simp; omega) (by simp; omega) ?_
               intro v9 w9 ho9 hk9
               have HF9 : Hid (NewList base w9 v9 (F ++ [⟨.slice aK lK cK, .slice aV lV cV, ⟨[] ++ R.take n, (R.drop n).take l⟩⟩])) := (HF7.out.here hbn).push (HY7.out.here hbn) HAP.out ho9 hk9
               have HK9 : Hid (Keep 47 base w7 w9) := (Keep.of hbn (by omega)).trans hk9
               clear ho9 hk9
               obtain ⟨a9, c9, e9⟩ := (HF9.out.list (by simp; omega)).form
               rw [List.length_append, List.length_singleton] at e9
               subst e9))
          have HAL : Hid (Calls Try.prog 57 #[.slice a9 (F.length + 1) c9, .int .i64 F.length] w9 fun e' w' => e' = .returned (.int .i64 (comK [] ([] ++ R.take n) : Nat)) ∧ ∃ q, w' = w9.drewN q) := by
            have h1 := HF9.out.list (by simp; omega)
            have h2 := alike_any (i := F.length) (e := ⟨.slice aK lK cK, .slice aV lV cV, ⟨[] ++ R.take n, (R.drop n).take l⟩⟩) h1 (by simp)
            have h3 : prevK ((F ++ [(⟨.slice aK lK cK, .slice aV lV cV, ⟨[] ++ R.take n, (R.drop n).take l⟩⟩ : It)]).map It.e) F.length = [] := by
              rw [List.map_append]
              have := prevK_push (F.map It.e) ⟨[] ++ R.take n, (R.drop n).take l⟩
              rw [List.length_map] at this
              exact this.trans HP.out.symm
            rw [h3] at h2
            exact h2
          have HRS2 : Hid (read1 [] r = some (0, ⟨[] ++ R.take n, (R.drop n).take l⟩, R.drop (n + l))) := by unfold Hid; rw [HRS.out, if_pos ⟨hsp, hlz⟩]; try rfl
          have HFR9 : Hid (Fr B w w9) := HFR5.out.trans ((Fr.keep HK6.out (Nat.le_refl _) (by decide) (by decide)).trans ((Fr.of HB7.out (by omega)).trans (Fr.keep HK9.out hB (by decide) (by decide))))
          have HR9 : Hid (RBox w9 g v6) := (HR6.out.here HB7.out).keep HK9.out (by decide)
          have HV9 : Hid (KeyIn B w9 v6 (R.drop (n + l))) := by
            have := (HV6.out.below (HB7.out.mono (by omega))).below (HK9.out.low.mono hB)
            rw [List.drop_drop] at this
            exact this
          refine HAL.out.mono ?_
          rintro e wA ⟨rfl, q, rfl⟩
          by_cases hcm : comK [] ([] ++ R.take n) = 0
          · have hcz : ((comK [] ([] ++ R.take n) : Int) == ((0 : Nat) : Int)) = true := by rw [hcm]; simp
            have HCM : Hid _ := hcm
            clear hcm
            go_wp2_with (go_at_call 42; refine (must_true _).mono ?_; rintro e wB ⟨rfl, hwB⟩; have hwC := hwB.symm; subst hwC)
            go_ret
            exact ⟨HFR9.out.trans (Fr.of (below_draws (Below.refl _ _) q) (Nat.le_trans hBw HFR9.out.low.size)), .inr ⟨0, _, _, v6, _, rfl, HRS2.out, HCM.out, ⟨HR9.out.row⟩, HV9.out.below (below_draws (Below.refl _ _) q), HF9.out.here (below_draws (Below.refl _ _) q)⟩⟩
          · exact absurd (comK_nil _) hcm
        · have HTK := take_up (n := l) HR5.out HV5.out (by omega) hs3
          have HNO : Hid (∀ s' x r', read1 [] r = some (s', x, r') → comK [] x.k ≠ s') := fun s' x r' h => by
            rw [HRS.out, if_neg (fun h => by have := h.2; simp at hlR; omega)] at h; cases h
          go_wp2_with (go_at_call 62; refine HTK.mono ?_; rintro e w6 ⟨rfl, hw6⟩; have hw7 := hw6.symm; subst hw7)
          exact ⟨rfl, HFR5.out, .inl ⟨rfl, HNO.out⟩⟩
      · have HTK := take_up (w := w3.drew) (B := B) (g := g) (v := v3) (r := R) (n := n) ⟨HR3.out.row⟩ (HV3.out.below ((Below.refl _ _).drew)) (by omega) hs2
        have HNO : Hid (∀ s' x r', read1 [] r = some (s', x, r') → comK [] x.k ≠ s') := fun s' x r' h => by
          rw [HRS.out, if_neg (fun h => by have := h.2; omega)] at h; cases h
        go_region_dies
        all_goals
          refine HTK.mono ?_
          rintro e w4 ⟨rfl, hw4⟩
          obtain rfl := hw4
          exact ⟨rfl, hfr3.out.trans (Fr.of ((Below.refl _ _).drew) (Nat.le_trans hBw HK3.out.low.size)), .inl ⟨rfl, HNO.out⟩⟩
    · have hz1 : (0 : Int) < (F.length : Int) := by omega
      have hz2 : (F.length : Int) - 1 = (m : Int) := by omega
      have hz3 : (m : Int) < (F.length : Int) := by omega
      have hz4 : 0 < F.length := by omega
      have HFM : Hid (F.length = m + 1) := hFm
      clear hFm
      go_wp2_with (go_at_call 42; refine (must_true _).mono ?_; rintro e w4 ⟨rfl, hw4⟩; have hw5 := hw4.symm; subst hw5)
      by_cases hnR : n ≤ R.length
      · have HTK := take_ok (w := w3.drew) (B := B) (g := g) (v := v3) (r := R) (n := n) ⟨HR3.out.row⟩ hBg (HV3.out.below ((Below.refl _ _).drew)) hnR
        go_region_held_law (fun _ => True) (first | go_keep | trivial)
          (first
            | (go_at_call 62; refine HTK.mono ?_; rintro e w4 ⟨u, v4, rfl, hu, hr4, hv4, hk4⟩
               obtain ⟨aU, cU, eU⟩ := hu.form
               rw [List.length_take, Nat.min_eq_left hnR] at eU
               subst eU
               have HU4 : Hid (KeyIn B w4 (.slice aU n cU) (R.take n)) := hu
               have HR4 : Hid (RBox w4 g v4) := hr4
               have HV4 : Hid (KeyIn B w4 v4 (R.drop n)) := hv4
               have HK4 : Hid (Keep 68 B w3 w4) := (Keep.of ((Below.refl _ _).drew) (Nat.le_trans hBw HK3.out.low.size)).trans hk4
               clear hu hr4 hv4 hk4)
            | (go_at_call 63
               have hbn : Below w4.heap.size w4 (w4.alloc (.cells #[.slice aA s cA, .slice aU n cU] 39)) := below_new _ _
               have hc := concatB_any (w := w4.alloc (.cells #[.slice aA s cA, .slice aU n cU] 39)) (g := w4.heap.size) (n := 2) (K := [(.slice aA s cA, p.take s), (.slice aU n cU, R.take n)]) ⟨_, heap_alloc_last _ _, rfl⟩ rfl (by decide) (fun x hx => by
                 simp only [List.mem_cons, List.not_mem_nil, or_false] at hx
                 rcases hx with rfl | rfl
                 · exact ((HAU.out.keep HK4.out (by decide)).in.take s hsp rfl).at (Nat.le_refl _) |>.here hbn
                 · exact (HU4.out.at (Nat.le_trans hBw (Nat.le_trans HK3.out.low.size HK4.out.low.size))).here hbn) (by simp [allOf]; omega)
               refine hc.mono ?_; rintro e w5 ⟨vk, rfl, hvk, hb5⟩
               have e0 : allOf [(Value.slice aA s cA, p.take s), (Value.slice aU n cU, R.take n)] = p.take s ++ R.take n := by simp [allOf]
               rw [e0] at hvk
               have HVK : Hid (NewKey w4.heap.size w5 vk (p.take s ++ R.take n)) := hvk.mono hbn.size
               have HB5 : Hid (Below w4.heap.size w4 w5) := hbn.trans (hb5.mono hbn.size)
               clear hc hvk hb5
               obtain ⟨aK, lK, cK, eK⟩ := HVK.out.shape
               subst eK))
        have hB4 : B ≤ w4.heap.size := Nat.le_trans hBw (Nat.le_trans HK3.out.low.size HK4.out.low.size)
        have hb4 : base ≤ w4.heap.size := Nat.le_trans hb (Nat.le_trans HK3.out.low.size HK4.out.low.size)
        have HR5 : Hid (RBox w5 g v4) := HR4.out.here HB5.out
        have HV5 : Hid (KeyIn B w5 v4 (R.drop n)) := HV4.out.below (HB5.out.mono hB4)
        have HF5 : Hid (NewList base w5 (.slice (some ⟨gF, oF, none⟩) F.length cF) F) := (HF3.out.keep HK4.out (by decide) (by decide)).here HB5.out
        have HFR5 : Hid (Fr B w w5) := hfr3.out.trans ((Fr.keep HK4.out (Nat.le_refl _) (by decide) (by decide)).trans (Fr.of HB5.out hB4))
        have HBLK : Hid (∀ b ∈ blocks F, b < w4.heap.size) := fun b hb' => Nat.lt_of_lt_of_le (blocks_lt HF3.out.ents hb').1 HK4.out.low.size
        have hw45 := HB5.out.size
        clear HTK k0
        by_cases hlR : l ≤ (R.drop n).length
        · have HTK := take_ok (n := l) HR5.out hBg HV5.out hlR
          have hlz : n + l ≤ R.length := by simp at hlR; omega
          go_wp2_with (first
            | (go_at_call 62; refine HTK.mono ?_; rintro e w6 ⟨u6, v6, rfl, hu6, hr6, hv6, hk6⟩
               have HU6 : Hid (KeyIn B w6 u6 ((R.drop n).take l)) := hu6
               have HR6 : Hid (RBox w6 g v6) := hr6
               have HV6 : Hid (KeyIn B w6 v6 ((R.drop n).drop l)) := hv6
               have HK6 : Hid (Keep 68 B w5 w6) := hk6
               have hw6 := hk6.low.size
               clear hu6 hr6 hv6 hk6)
            | (at_builtin; refine wpList_append_key rfl _ _ rfl w6.heap.size (.slice none 0 0) _ [] ((R.drop n).take l) rfl (NewKey.nil _ _) rfl (HU6.out.at (by omega)) (by simp; omega) (Nat.le_refl _) ?_
               intro vv w7 hvv hk7
               have HVV : Hid (NewKey w6.heap.size w7 vv ((R.drop n).take l)) := hvv
               have HB7 : Hid (Below w6.heap.size w6 w7) := hk7.low
               have hw7 := hk7.low.size
               clear hvv hk7
               obtain ⟨aV, lV, cV, eV⟩ := HVV.out.shape
               subst eV
               have HVK7 : Hid (NewKey w4.heap.size w7 (.slice aK lK cK) (p.take s ++ R.take n)) := (HVK.out.keep HK6.out (by decide)).here HB7.out
               have HF7 : Hid (NewList base w7 (.slice (some ⟨gF, oF, none⟩) F.length cF) F) := (HF5.out.keep HK6.out (by decide) (by decide)).here HB7.out
               have HY7 : Hid (NewEnt base w7 ⟨.slice aK lK cK, .slice aV lV cV, ⟨p.take s ++ R.take n, (R.drop n).take l⟩⟩) :=
                 ⟨HVK7.out.mono hb4, HVV.out.mono (by omega), fun b e1 e2 => by
                   have h1 := (own_type HVK.out.own b e1).1
                   have h2 := (own_type HVV.out.own b e2).2.1
                   omega⟩
               have HAP : Hid (∀ b ∈ blocks [⟨.slice aK lK cK, .slice aV lV cV, ⟨p.take s ++ R.take n, (R.drop n).take l⟩⟩], b ∉ blocks F) := fun b hb1 hb2 => by
                 have h0 := HBLK.out b hb2
                 obtain ⟨z, hz, h' | h'⟩ := mem_blocks hb1 <;> simp at hz <;> subst hz
                 · have := (own_type HVK.out.own b h').2.1; omega
                 · have := (own_type HVV.out.own b h').2.1; omega)
            | (at_builtin
               have hbn : Below w7.heap.size w7 (w7.alloc (.cells #[.slice aK lK cK, .slice aV lV cV] 47)) := below_new _ _
               refine wpList_append_rows rfl _ _ rfl base (.slice (some ⟨gF, oF, none⟩) F.length cF) _ F [⟨.slice aK lK cK, .slice aV lV cV, ⟨p.take s ++ R.take n, (R.drop n).take l⟩⟩] rfl (HF7.out.here hbn).own rfl (list_one w7 _ HY7.out.ok) (by simp; omega) (by simp; omega) ?_
               intro v9 w9 ho9 hk9
               have HF9 : Hid (NewList base w9 v9 (F ++ [⟨.slice aK lK cK, .slice aV lV cV, ⟨p.take s ++ R.take n, (R.drop n).take l⟩⟩])) := (HF7.out.here hbn).push (HY7.out.here hbn) HAP.out ho9 hk9
               have HK9 : Hid (Keep 47 base w7 w9) := (Keep.of hbn (by omega)).trans hk9
               clear ho9 hk9
               obtain ⟨a9, c9, e9⟩ := (HF9.out.list (by simp; omega)).form
               rw [List.length_append, List.length_singleton] at e9
               subst e9))
          have HAL : Hid (Calls Try.prog 57 #[.slice a9 (F.length + 1) c9, .int .i64 F.length] w9 fun e' w' => e' = .returned (.int .i64 (comK p (p.take s ++ R.take n) : Nat)) ∧ ∃ q, w' = w9.drewN q) := by
            have h1 := HF9.out.list (by simp; omega)
            have h2 := alike_any (i := F.length) (e := ⟨.slice aK lK cK, .slice aV lV cV, ⟨p.take s ++ R.take n, (R.drop n).take l⟩⟩) h1 (by simp)
            have h3 : prevK ((F ++ [(⟨.slice aK lK cK, .slice aV lV cV, ⟨p.take s ++ R.take n, (R.drop n).take l⟩⟩ : It)]).map It.e) F.length = p := by
              rw [List.map_append]
              have := prevK_push (F.map It.e) ⟨p.take s ++ R.take n, (R.drop n).take l⟩
              rw [List.length_map] at this
              exact this.trans HP.out.symm
            rw [h3] at h2
            exact h2
          have HRS2 : Hid (read1 p r = some (s, ⟨p.take s ++ R.take n, (R.drop n).take l⟩, R.drop (n + l))) := by unfold Hid; rw [HRS.out, if_pos ⟨hsp, hlz⟩]; try rfl
          have HFR9 : Hid (Fr B w w9) := HFR5.out.trans ((Fr.keep HK6.out (Nat.le_refl _) (by decide) (by decide)).trans ((Fr.of HB7.out (by omega)).trans (Fr.keep HK9.out hB (by decide) (by decide))))
          have HR9 : Hid (RBox w9 g v6) := (HR6.out.here HB7.out).keep HK9.out (by decide)
          have HV9 : Hid (KeyIn B w9 v6 (R.drop (n + l))) := by
            have := (HV6.out.below (HB7.out.mono (by omega))).below (HK9.out.low.mono hB)
            rw [List.drop_drop] at this
            exact this
          refine HAL.out.mono ?_
          rintro e wA ⟨rfl, q, rfl⟩
          by_cases hcm : comK p (p.take s ++ R.take n) = s
          · have hcz : ((comK p (p.take s ++ R.take n) : Int) == (s : Int)) = true := by rw [hcm]; simp
            have HCM : Hid _ := hcm
            clear hcm
            go_wp2_with (go_at_call 42; refine (must_true _).mono ?_; rintro e wB ⟨rfl, hwB⟩; have hwC := hwB.symm; subst hwC)
            go_ret
            exact ⟨HFR9.out.trans (Fr.of (below_draws (Below.refl _ _) q) (Nat.le_trans hBw HFR9.out.low.size)), .inr ⟨s, _, _, v6, _, rfl, HRS2.out, HCM.out, ⟨HR9.out.row⟩, HV9.out.below (below_draws (Below.refl _ _) q), HF9.out.here (below_draws (Below.refl _ _) q)⟩⟩
          · have hcz : ((comK p (p.take s ++ R.take n) : Int) == (s : Int)) = false := by rw [beq_eq_false_iff_ne]; omega
            have HCM : Hid _ := hcm
            clear hcm
            go_wp2_with (go_at_call 42; refine (must_false _).mono ?_; rintro e wB ⟨rfl, hwB⟩; have hwC := hwB.symm; subst hwC)
            exact ⟨rfl, HFR9.out.trans (Fr.of (below_draws (Below.refl _ _) q) (Nat.le_trans hBw HFR9.out.low.size)), .inl ⟨rfl, fun s' x r' h => by
              rw [HRS2.out] at h; cases h; exact HCM.out⟩⟩
        · have HTK := take_up (n := l) HR5.out HV5.out (by omega) hs3
          have HNO : Hid (∀ s' x r', read1 p r = some (s', x, r') → comK p x.k ≠ s') := fun s' x r' h => by
            rw [HRS.out, if_neg (fun h => by have := h.2; simp at hlR; omega)] at h; cases h
          go_wp2_with (go_at_call 62; refine HTK.mono ?_; rintro e w6 ⟨rfl, hw6⟩; have hw7 := hw6.symm; subst hw7)
          exact ⟨rfl, HFR5.out, .inl ⟨rfl, HNO.out⟩⟩
      · have HTK := take_up (w := w3.drew) (B := B) (g := g) (v := v3) (r := R) (n := n) ⟨HR3.out.row⟩ (HV3.out.below ((Below.refl _ _).drew)) (by omega) hs2
        have HNO : Hid (∀ s' x r', read1 p r = some (s', x, r') → comK p x.k ≠ s') := fun s' x r' h => by
          rw [HRS.out, if_neg (fun h => by have := h.2; omega)] at h; cases h
        go_region_dies
        all_goals
          refine HTK.mono ?_
          rintro e w4 ⟨rfl, hw4⟩
          obtain rfl := hw4
          exact ⟨rfl, hfr3.out.trans (Fr.of ((Below.refl _ _).drew) (Nat.le_trans hBw HK3.out.low.size)), .inl ⟨rfl, HNO.out⟩⟩
  · have hspz : ¬ (s : Int) ≤ (p.length : Int) := by omega
    have HNO : Hid (∀ s' x r', read1 p r = some (s', x, r') → comK p x.k ≠ s') := fun s' x r' h => by
      rw [HRS.out, if_neg (fun h => hsp h.1)] at h; cases h
    rcases hcase with ⟨hF0, hnl⟩ | ⟨m, gF, oF, hFm, rfl, k0⟩
    · injection hnl with ea ep ec
      subst ea ec
      obtain rfl : p = [] := List.eq_nil_of_length_eq_zero ep
      clear ep
      have hsp0 : ¬ s = 0 := by simp at hsp; omega
      have hsp1 : decide (s = 0) = false := decide_eq_false hsp0
      have hz1 : ¬ (0 : Int) < (F.length : Int) := by omega
      have hz4 : ¬ 0 < F.length := by omega
      have HF0 : Hid (F.length = 0) := hF0
      clear hF0
      go_wp2_with (go_at_call 42; refine (must_false _).mono ?_; rintro e w4 ⟨rfl, hw4⟩; have hw5 := hw4.symm; subst hw5)
      exact ⟨rfl, hfr3.out, .inl ⟨rfl, HNO.out⟩⟩
    · have hz1 : (0 : Int) < (F.length : Int) := by omega
      have hz2 : (F.length : Int) - 1 = (m : Int) := by omega
      have hz3 : (m : Int) < (F.length : Int) := by omega
      have hz4 : 0 < F.length := by omega
      have HFM : Hid (F.length = m + 1) := hFm
      clear hFm
      go_wp2_with (go_at_call 42; refine (must_false _).mono ?_; rintro e w4 ⟨rfl, hw4⟩; have hw5 := hw4.symm; subst hw5)
      exact ⟨rfl, hfr3.out, .inl ⟨rfl, HNO.out⟩⟩
end Go.Proofs.Ytgifnaahahfhbaa
