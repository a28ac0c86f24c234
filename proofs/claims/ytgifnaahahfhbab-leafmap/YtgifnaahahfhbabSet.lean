/- Set. -/
import Derived.Test.YtgifnaahahfhbabFind
import Derived.Test.YtgifnaahahfhbabConcatE
import Derived.Test.YtgifnaahahfhbabCut
namespace Go.Proofs.Ytgifnaahahfhbab
open Go.RowKit

/-- Set's entries. -/
def putE (l : List En) (e : En) (p : Nat) (b : Bool) : List En := l.take p ++ [e] ++ l.drop (if b then p + 1 else p)

theorem ListAt.take {B : Nat} {w : World} {a : Option Addr} {c m : Nat} {L : List It} (h : ListAt B w (.slice a L.length c) L) (n : Nat) (hn : n ≤ L.length) (hm : m = n) : ListAt B w (.slice a m c) (L.take n) := by
  subst hm
  obtain ⟨⟨a', c', e, h1, h2, h3⟩, h4, h5⟩ := h
  cases e
  refine ⟨⟨a, c, by rw [List.length_take, Nat.min_eq_left hn], by rw [List.length_take]; omega, h2, fun j u hj => ?_⟩, by rw [List.length_take]; omega, fun e he => h5 e (List.mem_of_mem_take he)⟩
  rw [← flat_take, List.getElem?_take] at hj
  split at hj
  · exact h3 j u hj
  · cases hj
theorem ListAt.cut {B : Nat} {w : World} {a : Option Addr} {c : Nat} {L : List It} (h : ListAt B w (.slice a L.length c) L) (n : Nat) (hn : n ≤ L.length) :
    (c = n → ∀ c', c' = 0 → ListAt B w (.slice a (L.length - n) c') (L.drop n)) ∧ (c ≠ n → ListAt B w (.slice (Option.map (fun x => x.add (n * 2)) a) (L.length - n) (c - n)) (L.drop n)) := by
  obtain ⟨⟨a', c', e, h1, h2, h3⟩, h4, h5⟩ := id h
  cases e
  constructor
  · rintro hc c' rfl
    have e0 : L.drop n = [] := List.drop_of_length_le (by omega)
    rw [e0]
    refine ⟨⟨a, 0, by rw [show L.length - n = 0 by omega]; rfl, Nat.le_refl _, fun _ => rfl, fun j u hj => by simp [flat] at hj⟩, by decide, fun e he => by simp at he⟩
  · intro hc
    refine ⟨⟨_, c - n, by rw [List.length_drop], by rw [List.length_drop]; omega, fun e => ?_, fun j u hj => ?_⟩, by rw [List.length_drop]; omega, fun e he => h5 e (List.mem_of_mem_drop he)⟩
    · cases a with
      | none => have := h2 rfl; omega
      | some x => cases e
    · rw [← flat_drop, List.getElem?_drop] at hj
      obtain ⟨g', off', e1, hg, hc⟩ := h3 (n * 2 + j) u hj
      subst e1
      exact ⟨g', off' + n * 2, by simp [add_at], hg, by rw [Nat.add_assoc]; exact hc⟩

/-- What Set leaves. -/
structure SetPost (w : World) (l : List En) (e : En) (r : Ending) (w' : World) : Prop where
  is : ∃ p b v' F, r = .returned v' ∧ FindAt l e.k p b ∧ F.map It.e = putE l e p b ∧ NewList w.heap.size w' v' F ∧ Below w.heap.size w w'
/-- Set, while the first k are made anew. -/
structure Renew (w : World) (D : List It) (g c k : Nat) (F : List It) (wr : World) : Prop where
  row : RowAt wr g (c * 2) (F ++ D.drop k)
  len : F.length = k
  is : F.map It.e = (D.take k).map It.e
  ents : ∀ e ∈ F, NewEnt w.heap.size wr e
  apart : (blocks F).Nodup
  below : Below w.heap.size w wr
theorem Renew.next {w : World} {D F : List It} {g c k : Nat} {wr w3 : World} {x y : It} (h : Renew w D g c k F wr) (hx : D[k]? = some x) (hy : y.e = x.e) (hn : NewEnt wr.heap.size w3 y) (hb : Below wr.heap.size wr w3) (hg : w.heap.size ≤ g) : Renew w D g c (k + 1) (F ++ [y]) (putAt w3 g k y) := by
  have hR := h.row.here hb
  have hl := h.len
  have hkC := (List.getElem?_eq_some_iff.1 hx).1
  have hBr := h.below.size
  have hkp : Keep 25 w.heap.size w3 (putAt w3 g k y) := by
    obtain ⟨cur, h1, _⟩ := hR.is
    exact (keep_set h1 hg y.v1).trans (keep_set (heap_set_same y.v1 h1) hg y.v2)
  refine ⟨?_, by simp [hl], ?_, fun e he => ?_, ?_, ?_⟩
  · have := hR.put k y (by simp [hl]; omega)
    have e : (F ++ D.drop k).set k y = F ++ [y] ++ D.drop (k + 1) := by
      rw [List.drop_eq_getElem_cons hkC, List.set_append_right _ _ (by omega), hl, Nat.sub_self, List.set_cons_zero, List.append_assoc]
      rfl
    rwa [e] at this
  · rw [List.map_append, h.is, List.take_add_one, hx]
    simp [hy]
  · rcases List.mem_append.1 he with h' | h'
    · exact ((h.ents e h').here hb).keep hkp (by decide)
    · simp at h'; rw [h']; exact (hn.mono hBr).keep hkp (by decide)
  · rw [blocks_append, List.nodup_append]
    exact ⟨h.apart, hn.nodup, fun a ha b hb' e => hn.off h.ents (Nat.le_refl _) b hb' (e ▸ ha)⟩
  · exact (h.below.trans (hb.mono hBr)).trans hkp.low

theorem row_last2 (W : World) (o o' : Obj) : ((W.drew.alloc o).alloc o').heap[W.heap.size + 1]? = some o' := by
  have := heap_alloc_last (W.drew.alloc o) o'
  simpa using this
set_option maxHeartbeats 3200000 in
set_option maxRecDepth 100000 in
theorem set_any {w : World} {v ve : Value} {L : List It} {y : It} (hL : ListAt w.heap.size w v L) (hy : y.Ok w.heap.size w) (hve : ve = .agg #[y.v1, y.v2]) (hr : RisenE (L.map It.e)) (hs : (L.length + 1) * 48 ≤ 140737488355328) :
    Calls Try.prog 14 #[v, ve] w fun r w' => SetPost w (L.map It.e) y.e r w' := by
  subst hve
  obtain ⟨a, c, rfl⟩ := hL.form
  obtain ⟨a1, c1, f1⟩ := hy.k.form
  obtain ⟨a2, c2, f2⟩ := hy.v.form
  obtain ⟨y1, y2, ye⟩ := y
  simp only at f1 f2
  subst f1 f2
  have HL : Hid (ListAt w.heap.size w (.slice a L.length c) L) := hL
  have HY : Hid (It.Ok w.heap.size w ⟨.slice a1 ye.k.length c1, .slice a2 ye.v.length c2, ye⟩) := hy
  obtain ⟨W0, hW0⟩ : ∃ W0, W0 = w.alloc (.cells #[.slice a1 ye.k.length c1, .slice a2 ye.v.length c2] 25) := ⟨_, rfl⟩
  have HB0 : Hid (Below w.heap.size w W0) := by rw [hW0]; exact below_new _ _
  have HX0 : Hid (EBox W0 w.heap.size (.slice a1 ye.k.length c1) (.slice a2 ye.v.length c2)) := by rw [hW0]; exact EBox.new _ _ _
  have HF := find_any (HL.out.here HB0.out) ((HY.out.here HB0.out).k.at (Nat.le_refl _)) hr
  have hlc : L.length ≤ c := by
    obtain ⟨⟨a', c', e1, hc, _⟩, _⟩ := hL
    cases e1; exact hc
  have hsh := hL.short
  clear hL hy hr
  go_enter Try.func14, Try.ntmps14
  go_wp2_with fail
  rw [← hW0]
  clear hW0
  refine HF.mono ?_
  rintro e1 w1 ⟨p, b, rfl, hf, hb1⟩
  have hple := hf.le
  simp at hple
  have HFA : Hid (FindAt (L.map It.e) ye.k p b) := hf
  have HB1 : Hid (Below w.heap.size w w1) := HB0.out.trans (hb1.mono HB0.out.size)
  have HX1 : Hid (EBox w1 w.heap.size (.slice a1 ye.k.length c1) (.slice a2 ye.v.length c2)) := HX0.out.here hb1
  obtain ⟨k0, k1⟩ := HX1.out.cells
  have hpl : b = true → p < L.length := fun hb => by
    obtain ⟨x, hx, _⟩ := hf.is.1 hb
    have := (List.getElem?_eq_some_iff.1 hx).1
    simpa using this
  have HLW : Hid (∀ w', Below w.heap.size w w' → ListAt w'.heap.size w' (.slice a L.length c) L) := fun w' hb => HL.out.here hb
  clear HF hf hb1
  have hpc : p ≤ c := by omega
  cases b with
  | false =>
    rcases Decidable.em (c = p) with hcp | hcp
    · obtain rfl := hcp
      have HV2 : Hid (ListAt w1.heap.size w1 (.slice a 0 0) (L.drop c)) := by
        have := ((HLW.out w1 HB1.out).cut c hple).1 rfl 0 rfl
        rw [show L.length - c = 0 by omega] at this
        exact this
      go_wp2_with fail
      have HV1 : Hid (ListAt w1.heap.size w1 (.slice a c c) (L.take c)) := (HLW.out w1 HB1.out).take c hple rfl
      have HCE := concatE_any (w := (w1.drew.alloc (.cells #[.slice a1 ye.k.length c1, .slice a2 ye.v.length c2] 25)).alloc (.cells #[.slice a c c, .slice (some ⟨w1.heap.size, 0, none⟩) 1 1, (.slice a 0 0)] 22)) (g := w1.heap.size + 1) (n := 3) (K := [(.slice a c c, L.take c), (.slice (some ⟨w1.heap.size, 0, none⟩) 1 1, [(⟨.slice a1 ye.k.length c1, .slice a2 ye.v.length c2, ye⟩ : It)]), ((.slice a 0 0), L.drop c)])
        ⟨_, row_last2 w1 _ _, rfl⟩ rfl (by decide) (fun x hx => by
          have hbe : Below w1.heap.size w1 ((w1.drew.alloc (.cells #[.slice a1 ye.k.length c1, .slice a2 ye.v.length c2] 25)).alloc (.cells #[.slice a c c, .slice (some ⟨w1.heap.size, 0, none⟩) 1 1, (.slice a 0 0)] 22)) := (((Below.refl _ _).drew).alloc (Nat.le_refl _) _).alloc (by simp) _
          simp only [List.mem_cons, List.not_mem_nil, or_false] at hx
          rcases hx with rfl | rfl | rfl
          · exact HV1.out.here hbe
          · exact (list_one w1.drew ⟨.slice a1 ye.k.length c1, .slice a2 ye.v.length c2, ye⟩ ((HY.out.here HB1.out).here ((Below.refl _ _).drew))).here (below_new _ _)
          · exact HV2.out.here hbe) (by simp only [allIt, List.flatMap_cons, List.flatMap_nil, List.length_append, List.length_take, List.length_cons, List.length_nil, List.length_drop]; omega)
      have e0 : allIt [(Value.slice a c c, L.take c), (Value.slice (some ⟨w1.heap.size, 0, none⟩) 1 1, [(⟨.slice a1 ye.k.length c1, .slice a2 ye.v.length c2, ye⟩ : It)]), ((.slice a 0 0), L.drop c)] = L.take c ++ [(⟨.slice a1 ye.k.length c1, .slice a2 ye.v.length c2, ye⟩ : It)] ++ L.drop c := by simp [allIt]
      rw [e0] at HCE
      have HDE : Hid ((L.take c ++ [(⟨.slice a1 ye.k.length c1, .slice a2 ye.v.length c2, ye⟩ : It)] ++ L.drop c).map It.e = putE (L.map It.e) ye c false) := by
        simp [Hid, putE, List.map_take, List.map_drop]
      have HDO : Hid (∀ x ∈ L.take c ++ [(⟨.slice a1 ye.k.length c1, .slice a2 ye.v.length c2, ye⟩ : It)] ++ L.drop c, x.Ok w.heap.size w) := fun x hx => by
        simp only [List.mem_append, List.mem_singleton] at hx
        rcases hx with (hx | rfl) | hx
        · exact HL.out.ok x (List.mem_of_mem_take hx)
        · exact HY.out
        · exact HL.out.ok x (List.mem_of_mem_drop hx)
      have hDl : (L.take c ++ [(⟨.slice a1 ye.k.length c1, .slice a2 ye.v.length c2, ye⟩ : It)] ++ L.drop c).length ≤ L.length + 1 := by
        simp only [List.length_append, List.length_take, List.length_cons, List.length_nil, List.length_drop]; omega
      have hDp : 0 < (L.take c ++ [(⟨.slice a1 ye.k.length c1, .slice a2 ye.v.length c2, ye⟩ : It)] ++ L.drop c).length := by simp; omega
      clear e0
      generalize L.take c ++ [(⟨.slice a1 ye.k.length c1, .slice a2 ye.v.length c2, ye⟩ : It)] ++ L.drop c = D at HCE HDE HDO hDl hDp
      go_region_held_law (fun W' => W'.cell? ⟨w.heap.size, 0, none⟩ = some (.slice a1 ye.k.length c1) ∧ W'.cell? ⟨w.heap.size, 1, none⟩ = some (.slice a2 ye.v.length c2)) (first | go_keep | (refine ⟨?_, ?_⟩ <;> assumption))
        (first
          | (go_at_call 29; refine HCE.mono ?_; rintro e1 w2 ⟨v2, rfl, ho2, hb2⟩
             have HO2 : Hid (OwnE w1.heap.size w2 v2 D) := ⟨own_mono ho2.own (by simp; omega)⟩
             have HB2 : Hid (Below w1.heap.size w1 w2) := ((((Below.refl _ _).drew).alloc (Nat.le_refl _) _).alloc (by simp) _).trans (hb2.mono (by simp; omega))
             obtain ⟨n0, n1⟩ := (HX1.out.here HB2.out).cells
             clear ho2 hb2))
      have hw1 := HB1.out.size
      have HB3 : Hid (Below w.heap.size w w2) := HB1.out.trans (HB2.out.mono hw1)
      obtain ⟨g, cp, ev2, hg1, hcp1, hcp2, hrow⟩ : ∃ g cp, v2 = .slice (some ⟨g, 0, none⟩) D.length cp ∧ w1.heap.size ≤ g ∧ D.length ≤ cp ∧ cp ≤ maxLen ∧ RowAt w2 g (cp * 2) D := by
        rcases own_row HO2.out.own with ⟨_, rfl⟩ | h
        · simp at hDp
        · exact h
      subst ev2
      have HR0 : Hid (Renew w D g cp 0 [] w2) := ⟨by simpa using hrow, rfl, rfl, fun e he => by simp at he, by simp [blocks], HB3.out⟩
      have hgw : w.heap.size ≤ g := by omega
      clear hrow HCE n0 n1 k0 k1
      go_wp2_with fail
      go_loopw [35] (fun i wx => ∃ (k : Nat) (F : List It), k ≤ D.length ∧ i = .int .i64 k ∧ Renew w D g cp k F wx) (fun i _ => D.length - (intOf i).toNat)
      case atStart => exact ⟨0, [], by omega, rfl, HR0.out⟩
      case round =>
        obtain ⟨k, F, hk, rfl, hren⟩ := hrel
        have HRN : Hid (Renew w D g cp k F wr) := hren
        clear hren
        by_cases hlt : k < D.length
        · have hz : (k : Int) < (D.length : Int) := by omega
          obtain ⟨x, hx⟩ : ∃ x, D[k]? = some x := ⟨_, List.getElem?_eq_getElem hlt⟩
          have hFk := HRN.out.len
          obtain ⟨m0, m1⟩ := HRN.out.row.cells k x (by rw [List.getElem?_append_right (by omega), hFk, Nat.sub_self, List.getElem?_drop, Nat.add_zero]; exact hx)
          have hop : ∀ j, wr.frozen? ⟨g, j, none⟩ = false := HRN.out.row.open
          have hxo := (HDO.out x (List.mem_of_getElem? hx)).below HRN.out.below
          have HAN := anew_any (hxo.mono HRN.out.below.size).ent
          have HXK : Hid (D[k]? = some x) := hx
          obtain ⟨b1, d1, g1⟩ := hxo.k.form
          obtain ⟨b2, d2, g2⟩ := hxo.v.form
          have hds : D.length * 48 ≤ 140737488355328 := by omega
          rw [g1] at m0 HAN
          rw [g2] at m1 HAN
          clear hx hFk hxo g1 g2 hop
          go_wp2_with fail
          refine HAN.mono ?_
          rintro e1 w3 ⟨y', rfl, hye, hny, hb3⟩
          have HNX : Hid (Renew w D g cp (k + 1) (F ++ [y']) (putAt w3 g k y')) := HRN.out.next HXK.out hye hny hb3 hgw
          have hR3 := HRN.out.row.here hb3
          obtain ⟨q0, q1⟩ := hR3.cells k x (by rw [List.getElem?_append_right (by rw [HRN.out.len]; omega), HRN.out.len, Nat.sub_self, List.getElem?_drop, Nat.add_zero]; exact HXK.out)
          have z0 := hR3.open (k * 2)
          have z1 := hR3.open (k * 2 + 1)
          obtain ⟨p1, s1, t1, e1⟩ := hny.k.shape
          obtain ⟨p2, s2, t2, e2⟩ := hny.v.shape
          obtain ⟨x1, x2, xe⟩ := y'
          simp only at e1 e2
          subst e1 e2
          simp only at HNX ⊢
          clear hye hny hb3 hR3 HAN m0 m1
          go_wp2
          exact ⟨⟨k + 1, _, by omega, by go_num, HNX.out⟩, by simp [intOf]; omega⟩
        · have hz : ¬ (k : Int) < (D.length : Int) := by omega
          have hkD : k = D.length := by omega
          have HE1 : Hid (F.map It.e = D.map It.e) := by rw [Hid, HRN.out.is, List.take_of_length_le (by omega)]
          have HE2 : Hid (NewList w.heap.size wr (.slice (some ⟨g, 0, none⟩) D.length cp) F) := by
            have h1 := HRN.out.row
            rw [List.drop_of_length_le (by omega), List.append_nil] at h1
            have h2 := h1.own hgw hcp2
            rw [HRN.out.len, hkD] at h2
            exact ⟨by rw [HRN.out.len, hkD]; exact h2, HRN.out.ents, HRN.out.apart⟩
          clear hkD
          go_wp2
          go_ret
          exact ⟨⟨c, false, _, F, rfl, HFA.out, by rw [HE1.out, HDE.out], HE2.out, HRN.out.below⟩⟩
    · have HV2 : Hid (ListAt w1.heap.size w1 (.slice (Option.map (fun x => x.add (p * 2)) a) (L.length - p) (c - p)) (L.drop p)) := ((HLW.out w1 HB1.out).cut p hple).2 hcp
      go_wp2_with fail
      have HV1 : Hid (ListAt w1.heap.size w1 (.slice a p c) (L.take p)) := (HLW.out w1 HB1.out).take p hple rfl
      have HCE := concatE_any (w := (w1.drew.alloc (.cells #[.slice a1 ye.k.length c1, .slice a2 ye.v.length c2] 25)).alloc (.cells #[.slice a p c, .slice (some ⟨w1.heap.size, 0, none⟩) 1 1, (.slice (Option.map (fun x => x.add (p * 2)) a) (L.length - p) (c - p))] 22)) (g := w1.heap.size + 1) (n := 3) (K := [(.slice a p c, L.take p), (.slice (some ⟨w1.heap.size, 0, none⟩) 1 1, [(⟨.slice a1 ye.k.length c1, .slice a2 ye.v.length c2, ye⟩ : It)]), ((.slice (Option.map (fun x => x.add (p * 2)) a) (L.length - p) (c - p)), L.drop p)])
        ⟨_, row_last2 w1 _ _, rfl⟩ rfl (by decide) (fun x hx => by
          have hbe : Below w1.heap.size w1 ((w1.drew.alloc (.cells #[.slice a1 ye.k.length c1, .slice a2 ye.v.length c2] 25)).alloc (.cells #[.slice a p c, .slice (some ⟨w1.heap.size, 0, none⟩) 1 1, (.slice (Option.map (fun x => x.add (p * 2)) a) (L.length - p) (c - p))] 22)) := (((Below.refl _ _).drew).alloc (Nat.le_refl _) _).alloc (by simp) _
          simp only [List.mem_cons, List.not_mem_nil, or_false] at hx
          rcases hx with rfl | rfl | rfl
          · exact HV1.out.here hbe
          · exact (list_one w1.drew ⟨.slice a1 ye.k.length c1, .slice a2 ye.v.length c2, ye⟩ ((HY.out.here HB1.out).here ((Below.refl _ _).drew))).here (below_new _ _)
          · exact HV2.out.here hbe) (by simp only [allIt, List.flatMap_cons, List.flatMap_nil, List.length_append, List.length_take, List.length_cons, List.length_nil, List.length_drop]; omega)
      have e0 : allIt [(Value.slice a p c, L.take p), (Value.slice (some ⟨w1.heap.size, 0, none⟩) 1 1, [(⟨.slice a1 ye.k.length c1, .slice a2 ye.v.length c2, ye⟩ : It)]), ((.slice (Option.map (fun x => x.add (p * 2)) a) (L.length - p) (c - p)), L.drop p)] = L.take p ++ [(⟨.slice a1 ye.k.length c1, .slice a2 ye.v.length c2, ye⟩ : It)] ++ L.drop p := by simp [allIt]
      rw [e0] at HCE
      have HDE : Hid ((L.take p ++ [(⟨.slice a1 ye.k.length c1, .slice a2 ye.v.length c2, ye⟩ : It)] ++ L.drop p).map It.e = putE (L.map It.e) ye p false) := by
        simp [Hid, putE, List.map_take, List.map_drop]
      have HDO : Hid (∀ x ∈ L.take p ++ [(⟨.slice a1 ye.k.length c1, .slice a2 ye.v.length c2, ye⟩ : It)] ++ L.drop p, x.Ok w.heap.size w) := fun x hx => by
        simp only [List.mem_append, List.mem_singleton] at hx
        rcases hx with (hx | rfl) | hx
        · exact HL.out.ok x (List.mem_of_mem_take hx)
        · exact HY.out
        · exact HL.out.ok x (List.mem_of_mem_drop hx)
      have hDl : (L.take p ++ [(⟨.slice a1 ye.k.length c1, .slice a2 ye.v.length c2, ye⟩ : It)] ++ L.drop p).length ≤ L.length + 1 := by
        simp only [List.length_append, List.length_take, List.length_cons, List.length_nil, List.length_drop]; omega
      have hDp : 0 < (L.take p ++ [(⟨.slice a1 ye.k.length c1, .slice a2 ye.v.length c2, ye⟩ : It)] ++ L.drop p).length := by simp; omega
      clear e0
      generalize L.take p ++ [(⟨.slice a1 ye.k.length c1, .slice a2 ye.v.length c2, ye⟩ : It)] ++ L.drop p = D at HCE HDE HDO hDl hDp
      go_region_held_law (fun W' => W'.cell? ⟨w.heap.size, 0, none⟩ = some (.slice a1 ye.k.length c1) ∧ W'.cell? ⟨w.heap.size, 1, none⟩ = some (.slice a2 ye.v.length c2)) (first | go_keep | (refine ⟨?_, ?_⟩ <;> assumption))
        (first
          | (go_at_call 29; refine HCE.mono ?_; rintro e1 w2 ⟨v2, rfl, ho2, hb2⟩
             have HO2 : Hid (OwnE w1.heap.size w2 v2 D) := ⟨own_mono ho2.own (by simp; omega)⟩
             have HB2 : Hid (Below w1.heap.size w1 w2) := ((((Below.refl _ _).drew).alloc (Nat.le_refl _) _).alloc (by simp) _).trans (hb2.mono (by simp; omega))
             obtain ⟨n0, n1⟩ := (HX1.out.here HB2.out).cells
             clear ho2 hb2))
      have hw1 := HB1.out.size
      have HB3 : Hid (Below w.heap.size w w2) := HB1.out.trans (HB2.out.mono hw1)
      obtain ⟨g, cp, ev2, hg1, hcp1, hcp2, hrow⟩ : ∃ g cp, v2 = .slice (some ⟨g, 0, none⟩) D.length cp ∧ w1.heap.size ≤ g ∧ D.length ≤ cp ∧ cp ≤ maxLen ∧ RowAt w2 g (cp * 2) D := by
        rcases own_row HO2.out.own with ⟨_, rfl⟩ | h
        · simp at hDp
        · exact h
      subst ev2
      have HR0 : Hid (Renew w D g cp 0 [] w2) := ⟨by simpa using hrow, rfl, rfl, fun e he => by simp at he, by simp [blocks], HB3.out⟩
      have hgw : w.heap.size ≤ g := by omega
      clear hrow HCE n0 n1 k0 k1
      go_wp2_with fail
      go_loopw [35] (fun i wx => ∃ (k : Nat) (F : List It), k ≤ D.length ∧ i = .int .i64 k ∧ Renew w D g cp k F wx) (fun i _ => D.length - (intOf i).toNat)
      case atStart => exact ⟨0, [], by omega, rfl, HR0.out⟩
      case round =>
        obtain ⟨k, F, hk, rfl, hren⟩ := hrel
        have HRN : Hid (Renew w D g cp k F wr) := hren
        clear hren
        by_cases hlt : k < D.length
        · have hz : (k : Int) < (D.length : Int) := by omega
          obtain ⟨x, hx⟩ : ∃ x, D[k]? = some x := ⟨_, List.getElem?_eq_getElem hlt⟩
          have hFk := HRN.out.len
          obtain ⟨m0, m1⟩ := HRN.out.row.cells k x (by rw [List.getElem?_append_right (by omega), hFk, Nat.sub_self, List.getElem?_drop, Nat.add_zero]; exact hx)
          have hop : ∀ j, wr.frozen? ⟨g, j, none⟩ = false := HRN.out.row.open
          have hxo := (HDO.out x (List.mem_of_getElem? hx)).below HRN.out.below
          have HAN := anew_any (hxo.mono HRN.out.below.size).ent
          have HXK : Hid (D[k]? = some x) := hx
          obtain ⟨b1, d1, g1⟩ := hxo.k.form
          obtain ⟨b2, d2, g2⟩ := hxo.v.form
          have hds : D.length * 48 ≤ 140737488355328 := by omega
          rw [g1] at m0 HAN
          rw [g2] at m1 HAN
          clear hx hFk hxo g1 g2 hop
          go_wp2_with fail
          refine HAN.mono ?_
          rintro e1 w3 ⟨y', rfl, hye, hny, hb3⟩
          have HNX : Hid (Renew w D g cp (k + 1) (F ++ [y']) (putAt w3 g k y')) := HRN.out.next HXK.out hye hny hb3 hgw
          have hR3 := HRN.out.row.here hb3
          obtain ⟨q0, q1⟩ := hR3.cells k x (by rw [List.getElem?_append_right (by rw [HRN.out.len]; omega), HRN.out.len, Nat.sub_self, List.getElem?_drop, Nat.add_zero]; exact HXK.out)
          have z0 := hR3.open (k * 2)
          have z1 := hR3.open (k * 2 + 1)
          obtain ⟨p1, s1, t1, e1⟩ := hny.k.shape
          obtain ⟨p2, s2, t2, e2⟩ := hny.v.shape
          obtain ⟨x1, x2, xe⟩ := y'
          simp only at e1 e2
          subst e1 e2
          simp only at HNX ⊢
          clear hye hny hb3 hR3 HAN m0 m1
          go_wp2
          exact ⟨⟨k + 1, _, by omega, by go_num, HNX.out⟩, by simp [intOf]; omega⟩
        · have hz : ¬ (k : Int) < (D.length : Int) := by omega
          have hkD : k = D.length := by omega
          have HE1 : Hid (F.map It.e = D.map It.e) := by rw [Hid, HRN.out.is, List.take_of_length_le (by omega)]
          have HE2 : Hid (NewList w.heap.size wr (.slice (some ⟨g, 0, none⟩) D.length cp) F) := by
            have h1 := HRN.out.row
            rw [List.drop_of_length_le (by omega), List.append_nil] at h1
            have h2 := h1.own hgw hcp2
            rw [HRN.out.len, hkD] at h2
            exact ⟨by rw [HRN.out.len, hkD]; exact h2, HRN.out.ents, HRN.out.apart⟩
          clear hkD
          go_wp2
          go_ret
          exact ⟨⟨p, false, _, F, rfl, HFA.out, by rw [HE1.out, HDE.out], HE2.out, HRN.out.below⟩⟩
  | true =>
    have hpl2 := hpl rfl
    have hcp0 : ¬ c = p := by omega
    have hp1c : p + 1 ≤ c := by omega
    have hp1z : (p : Int) + 1 ≤ (c : Int) := by omega
    have hp1l : p + 1 ≤ L.length := by omega
    have hp1w : (p : Int) + 1 ≤ (L.length : Int) := by omega
    clear hpl
    rcases Decidable.em (c = p + 1) with hcp | hcp
    · subst hcp
      have HV2 : Hid (ListAt w1.heap.size w1 (.slice a (L.length - (p + 1)) 0) (L.drop (p + 1))) := ((HLW.out w1 HB1.out).cut (p + 1) hp1l).1 rfl 0 rfl
      have HLC : Hid (L.length ≤ p + 1) := hlc
      clear hlc
      go_wp2_with fail
      have HV1 : Hid (ListAt w1.heap.size w1 (.slice a p (p + 1)) (L.take p)) := (HLW.out w1 HB1.out).take p hple rfl
      have HCE := concatE_any (w := (w1.drew.alloc (.cells #[.slice a1 ye.k.length c1, .slice a2 ye.v.length c2] 25)).alloc (.cells #[.slice a p (p + 1), .slice (some ⟨w1.heap.size, 0, none⟩) 1 1, (.slice a (L.length - (p + 1)) 0)] 22)) (g := w1.heap.size + 1) (n := 3) (K := [(.slice a p (p + 1), L.take p), (.slice (some ⟨w1.heap.size, 0, none⟩) 1 1, [(⟨.slice a1 ye.k.length c1, .slice a2 ye.v.length c2, ye⟩ : It)]), ((.slice a (L.length - (p + 1)) 0), L.drop (p + 1))])
        ⟨_, row_last2 w1 _ _, rfl⟩ rfl (by decide) (fun x hx => by
          have hbe : Below w1.heap.size w1 ((w1.drew.alloc (.cells #[.slice a1 ye.k.length c1, .slice a2 ye.v.length c2] 25)).alloc (.cells #[.slice a p (p + 1), .slice (some ⟨w1.heap.size, 0, none⟩) 1 1, (.slice a (L.length - (p + 1)) 0)] 22)) := (((Below.refl _ _).drew).alloc (Nat.le_refl _) _).alloc (by simp) _
          simp only [List.mem_cons, List.not_mem_nil, or_false] at hx
          rcases hx with rfl | rfl | rfl
          · exact HV1.out.here hbe
          · exact (list_one w1.drew ⟨.slice a1 ye.k.length c1, .slice a2 ye.v.length c2, ye⟩ ((HY.out.here HB1.out).here ((Below.refl _ _).drew))).here (below_new _ _)
          · exact HV2.out.here hbe) (by simp only [allIt, List.flatMap_cons, List.flatMap_nil, List.length_append, List.length_take, List.length_cons, List.length_nil, List.length_drop]; omega)
      have e0 : allIt [(Value.slice a p (p + 1), L.take p), (Value.slice (some ⟨w1.heap.size, 0, none⟩) 1 1, [(⟨.slice a1 ye.k.length c1, .slice a2 ye.v.length c2, ye⟩ : It)]), ((.slice a (L.length - (p + 1)) 0), L.drop (p + 1))] = L.take p ++ [(⟨.slice a1 ye.k.length c1, .slice a2 ye.v.length c2, ye⟩ : It)] ++ L.drop (p + 1) := by simp [allIt]
      rw [e0] at HCE
      have HDE : Hid ((L.take p ++ [(⟨.slice a1 ye.k.length c1, .slice a2 ye.v.length c2, ye⟩ : It)] ++ L.drop (p + 1)).map It.e = putE (L.map It.e) ye p true) := by
        simp [Hid, putE, List.map_take, List.map_drop]
      have HDO : Hid (∀ x ∈ L.take p ++ [(⟨.slice a1 ye.k.length c1, .slice a2 ye.v.length c2, ye⟩ : It)] ++ L.drop (p + 1), x.Ok w.heap.size w) := fun x hx => by
        simp only [List.mem_append, List.mem_singleton] at hx
        rcases hx with (hx | rfl) | hx
        · exact HL.out.ok x (List.mem_of_mem_take hx)
        · exact HY.out
        · exact HL.out.ok x (List.mem_of_mem_drop hx)
      have hDl : (L.take p ++ [(⟨.slice a1 ye.k.length c1, .slice a2 ye.v.length c2, ye⟩ : It)] ++ L.drop (p + 1)).length ≤ L.length + 1 := by
        simp only [List.length_append, List.length_take, List.length_cons, List.length_nil, List.length_drop]; omega
      have hDp : 0 < (L.take p ++ [(⟨.slice a1 ye.k.length c1, .slice a2 ye.v.length c2, ye⟩ : It)] ++ L.drop (p + 1)).length := by simp; omega
      clear e0
      generalize L.take p ++ [(⟨.slice a1 ye.k.length c1, .slice a2 ye.v.length c2, ye⟩ : It)] ++ L.drop (p + 1) = D at HCE HDE HDO hDl hDp
      go_region_held_law (fun W' => W'.cell? ⟨w.heap.size, 0, none⟩ = some (.slice a1 ye.k.length c1) ∧ W'.cell? ⟨w.heap.size, 1, none⟩ = some (.slice a2 ye.v.length c2)) (first | go_keep | (refine ⟨?_, ?_⟩ <;> assumption))
        (first
          | (go_at_call 29; refine HCE.mono ?_; rintro e1 w2 ⟨v2, rfl, ho2, hb2⟩
             have HO2 : Hid (OwnE w1.heap.size w2 v2 D) := ⟨own_mono ho2.own (by simp; omega)⟩
             have HB2 : Hid (Below w1.heap.size w1 w2) := ((((Below.refl _ _).drew).alloc (Nat.le_refl _) _).alloc (by simp) _).trans (hb2.mono (by simp; omega))
             obtain ⟨n0, n1⟩ := (HX1.out.here HB2.out).cells
             clear ho2 hb2))
      all_goals
        have hw1 := HB1.out.size
        have HB3 : Hid (Below w.heap.size w w2) := HB1.out.trans (HB2.out.mono hw1)
        obtain ⟨g, cp, ev2, hg1, hcp1, hcp2, hrow⟩ : ∃ g cp, v2 = .slice (some ⟨g, 0, none⟩) D.length cp ∧ w1.heap.size ≤ g ∧ D.length ≤ cp ∧ cp ≤ maxLen ∧ RowAt w2 g (cp * 2) D := by
          rcases own_row HO2.out.own with ⟨_, rfl⟩ | h
          · simp at hDp
          · exact h
        subst ev2
        have HR0 : Hid (Renew w D g cp 0 [] w2) := ⟨by simpa using hrow, rfl, rfl, fun e he => by simp at he, by simp [blocks], HB3.out⟩
        have hgw : w.heap.size ≤ g := by omega
        clear hrow HCE n0 n1 k0 k1
        go_wp2_with fail
        go_loopw [35] (fun i wx => ∃ (k : Nat) (F : List It), k ≤ D.length ∧ i = .int .i64 k ∧ Renew w D g cp k F wx) (fun i _ => D.length - (intOf i).toNat)
        case atStart => exact ⟨0, [], by omega, rfl, HR0.out⟩
        case round =>
          obtain ⟨k, F, hk, rfl, hren⟩ := hrel
          have HRN : Hid (Renew w D g cp k F wr) := hren
          clear hren
          by_cases hlt : k < D.length
          · have hz : (k : Int) < (D.length : Int) := by omega
            obtain ⟨x, hx⟩ : ∃ x, D[k]? = some x := ⟨_, List.getElem?_eq_getElem hlt⟩
            have hFk := HRN.out.len
            obtain ⟨m0, m1⟩ := HRN.out.row.cells k x (by rw [List.getElem?_append_right (by omega), hFk, Nat.sub_self, List.getElem?_drop, Nat.add_zero]; exact hx)
            have hop : ∀ j, wr.frozen? ⟨g, j, none⟩ = false := HRN.out.row.open
            have hxo := (HDO.out x (List.mem_of_getElem? hx)).below HRN.out.below
            have HAN := anew_any (hxo.mono HRN.out.below.size).ent
            have HXK : Hid (D[k]? = some x) := hx
            obtain ⟨b1, d1, g1⟩ := hxo.k.form
            obtain ⟨b2, d2, g2⟩ := hxo.v.form
            have hds : D.length * 48 ≤ 140737488355328 := by omega
            rw [g1] at m0 HAN
            rw [g2] at m1 HAN
            clear hx hFk hxo g1 g2 hop
            go_wp2_with fail
            refine HAN.mono ?_
            rintro e1 w3 ⟨y', rfl, hye, hny, hb3⟩
            have HNX : Hid (Renew w D g cp (k + 1) (F ++ [y']) (putAt w3 g k y')) := HRN.out.next HXK.out hye hny hb3 hgw
            have hR3 := HRN.out.row.here hb3
            obtain ⟨q0, q1⟩ := hR3.cells k x (by rw [List.getElem?_append_right (by rw [HRN.out.len]; omega), HRN.out.len, Nat.sub_self, List.getElem?_drop, Nat.add_zero]; exact HXK.out)
            have z0 := hR3.open (k * 2)
            have z1 := hR3.open (k * 2 + 1)
            obtain ⟨p1, s1, t1, e1⟩ := hny.k.shape
            obtain ⟨p2, s2, t2, e2⟩ := hny.v.shape
            obtain ⟨x1, x2, xe⟩ := y'
            simp only at e1 e2
            subst e1 e2
            simp only at HNX ⊢
            clear hye hny hb3 hR3 HAN m0 m1
            go_wp2
            exact ⟨⟨k + 1, _, by omega, by go_num, HNX.out⟩, by simp [intOf]; omega⟩
          · have hz : ¬ (k : Int) < (D.length : Int) := by omega
            have hkD : k = D.length := by omega
            have HE1 : Hid (F.map It.e = D.map It.e) := by rw [Hid, HRN.out.is, List.take_of_length_le (by omega)]
            have HE2 : Hid (NewList w.heap.size wr (.slice (some ⟨g, 0, none⟩) D.length cp) F) := by
              have h1 := HRN.out.row
              rw [List.drop_of_length_le (by omega), List.append_nil] at h1
              have h2 := h1.own hgw hcp2
              rw [HRN.out.len, hkD] at h2
              exact ⟨by rw [HRN.out.len, hkD]; exact h2, HRN.out.ents, HRN.out.apart⟩
            clear hkD
            go_wp2
            go_ret
            exact ⟨⟨p, true, _, F, rfl, HFA.out, by rw [HE1.out, HDE.out], HE2.out, HRN.out.below⟩⟩
    · have HV2 : Hid (ListAt w1.heap.size w1 (.slice (Option.map (fun x => x.add ((p + 1) * 2)) a) (L.length - (p + 1)) (c - (p + 1))) (L.drop (p + 1))) := ((HLW.out w1 HB1.out).cut (p + 1) hp1l).2 hcp
      go_wp2_with fail
      have HV1 : Hid (ListAt w1.heap.size w1 (.slice a p c) (L.take p)) := (HLW.out w1 HB1.out).take p hple rfl
      have HCE := concatE_any (w := (w1.drew.alloc (.cells #[.slice a1 ye.k.length c1, .slice a2 ye.v.length c2] 25)).alloc (.cells #[.slice a p c, .slice (some ⟨w1.heap.size, 0, none⟩) 1 1, (.slice (Option.map (fun x => x.add ((p + 1) * 2)) a) (L.length - (p + 1)) (c - (p + 1)))] 22)) (g := w1.heap.size + 1) (n := 3) (K := [(.slice a p c, L.take p), (.slice (some ⟨w1.heap.size, 0, none⟩) 1 1, [(⟨.slice a1 ye.k.length c1, .slice a2 ye.v.length c2, ye⟩ : It)]), ((.slice (Option.map (fun x => x.add ((p + 1) * 2)) a) (L.length - (p + 1)) (c - (p + 1))), L.drop (p + 1))])
        ⟨_, row_last2 w1 _ _, rfl⟩ rfl (by decide) (fun x hx => by
          have hbe : Below w1.heap.size w1 ((w1.drew.alloc (.cells #[.slice a1 ye.k.length c1, .slice a2 ye.v.length c2] 25)).alloc (.cells #[.slice a p c, .slice (some ⟨w1.heap.size, 0, none⟩) 1 1, (.slice (Option.map (fun x => x.add ((p + 1) * 2)) a) (L.length - (p + 1)) (c - (p + 1)))] 22)) := (((Below.refl _ _).drew).alloc (Nat.le_refl _) _).alloc (by simp) _
          simp only [List.mem_cons, List.not_mem_nil, or_false] at hx
          rcases hx with rfl | rfl | rfl
          · exact HV1.out.here hbe
          · exact (list_one w1.drew ⟨.slice a1 ye.k.length c1, .slice a2 ye.v.length c2, ye⟩ ((HY.out.here HB1.out).here ((Below.refl _ _).drew))).here (below_new _ _)
          · exact HV2.out.here hbe) (by simp only [allIt, List.flatMap_cons, List.flatMap_nil, List.length_append, List.length_take, List.length_cons, List.length_nil, List.length_drop]; omega)
      have e0 : allIt [(Value.slice a p c, L.take p), (Value.slice (some ⟨w1.heap.size, 0, none⟩) 1 1, [(⟨.slice a1 ye.k.length c1, .slice a2 ye.v.length c2, ye⟩ : It)]), ((.slice (Option.map (fun x => x.add ((p + 1) * 2)) a) (L.length - (p + 1)) (c - (p + 1))), L.drop (p + 1))] = L.take p ++ [(⟨.slice a1 ye.k.length c1, .slice a2 ye.v.length c2, ye⟩ : It)] ++ L.drop (p + 1) := by simp [allIt]
      rw [e0] at HCE
      have HDE : Hid ((L.take p ++ [(⟨.slice a1 ye.k.length c1, .slice a2 ye.v.length c2, ye⟩ : It)] ++ L.drop (p + 1)).map It.e = putE (L.map It.e) ye p true) := by
        simp [Hid, putE, List.map_take, List.map_drop]
      have HDO : Hid (∀ x ∈ L.take p ++ [(⟨.slice a1 ye.k.length c1, .slice a2 ye.v.length c2, ye⟩ : It)] ++ L.drop (p + 1), x.Ok w.heap.size w) := fun x hx => by
        simp only [List.mem_append, List.mem_singleton] at hx
        rcases hx with (hx | rfl) | hx
        · exact HL.out.ok x (List.mem_of_mem_take hx)
        · exact HY.out
        · exact HL.out.ok x (List.mem_of_mem_drop hx)
      have hDl : (L.take p ++ [(⟨.slice a1 ye.k.length c1, .slice a2 ye.v.length c2, ye⟩ : It)] ++ L.drop (p + 1)).length ≤ L.length + 1 := by
        simp only [List.length_append, List.length_take, List.length_cons, List.length_nil, List.length_drop]; omega
      have hDp : 0 < (L.take p ++ [(⟨.slice a1 ye.k.length c1, .slice a2 ye.v.length c2, ye⟩ : It)] ++ L.drop (p + 1)).length := by simp; omega
      clear e0
      generalize L.take p ++ [(⟨.slice a1 ye.k.length c1, .slice a2 ye.v.length c2, ye⟩ : It)] ++ L.drop (p + 1) = D at HCE HDE HDO hDl hDp
      go_region_held_law (fun W' => W'.cell? ⟨w.heap.size, 0, none⟩ = some (.slice a1 ye.k.length c1) ∧ W'.cell? ⟨w.heap.size, 1, none⟩ = some (.slice a2 ye.v.length c2)) (first | go_keep | (refine ⟨?_, ?_⟩ <;> assumption))
        (first
          | (go_at_call 29; refine HCE.mono ?_; rintro e1 w2 ⟨v2, rfl, ho2, hb2⟩
             have HO2 : Hid (OwnE w1.heap.size w2 v2 D) := ⟨own_mono ho2.own (by simp; omega)⟩
             have HB2 : Hid (Below w1.heap.size w1 w2) := ((((Below.refl _ _).drew).alloc (Nat.le_refl _) _).alloc (by simp) _).trans (hb2.mono (by simp; omega))
             obtain ⟨n0, n1⟩ := (HX1.out.here HB2.out).cells
             clear ho2 hb2))
      have hw1 := HB1.out.size
      have HB3 : Hid (Below w.heap.size w w2) := HB1.out.trans (HB2.out.mono hw1)
      obtain ⟨g, cp, ev2, hg1, hcp1, hcp2, hrow⟩ : ∃ g cp, v2 = .slice (some ⟨g, 0, none⟩) D.length cp ∧ w1.heap.size ≤ g ∧ D.length ≤ cp ∧ cp ≤ maxLen ∧ RowAt w2 g (cp * 2) D := by
        rcases own_row HO2.out.own with ⟨_, rfl⟩ | h
        · simp at hDp
        · exact h
      subst ev2
      have HR0 : Hid (Renew w D g cp 0 [] w2) := ⟨by simpa using hrow, rfl, rfl, fun e he => by simp at he, by simp [blocks], HB3.out⟩
      have hgw : w.heap.size ≤ g := by omega
      clear hrow HCE n0 n1 k0 k1
      go_wp2_with fail
      go_loopw [35] (fun i wx => ∃ (k : Nat) (F : List It), k ≤ D.length ∧ i = .int .i64 k ∧ Renew w D g cp k F wx) (fun i _ => D.length - (intOf i).toNat)
      case atStart => exact ⟨0, [], by omega, rfl, HR0.out⟩
      case round =>
        obtain ⟨k, F, hk, rfl, hren⟩ := hrel
        have HRN : Hid (Renew w D g cp k F wr) := hren
        clear hren
        by_cases hlt : k < D.length
        · have hz : (k : Int) < (D.length : Int) := by omega
          obtain ⟨x, hx⟩ : ∃ x, D[k]? = some x := ⟨_, List.getElem?_eq_getElem hlt⟩
          have hFk := HRN.out.len
          obtain ⟨m0, m1⟩ := HRN.out.row.cells k x (by rw [List.getElem?_append_right (by omega), hFk, Nat.sub_self, List.getElem?_drop, Nat.add_zero]; exact hx)
          have hop : ∀ j, wr.frozen? ⟨g, j, none⟩ = false := HRN.out.row.open
          have hxo := (HDO.out x (List.mem_of_getElem? hx)).below HRN.out.below
          have HAN := anew_any (hxo.mono HRN.out.below.size).ent
          have HXK : Hid (D[k]? = some x) := hx
          obtain ⟨b1, d1, g1⟩ := hxo.k.form
          obtain ⟨b2, d2, g2⟩ := hxo.v.form
          have hds : D.length * 48 ≤ 140737488355328 := by omega
          rw [g1] at m0 HAN
          rw [g2] at m1 HAN
          clear hx hFk hxo g1 g2 hop
          go_wp2_with fail
          refine HAN.mono ?_
          rintro e1 w3 ⟨y', rfl, hye, hny, hb3⟩
          have HNX : Hid (Renew w D g cp (k + 1) (F ++ [y']) (putAt w3 g k y')) := HRN.out.next HXK.out hye hny hb3 hgw
          have hR3 := HRN.out.row.here hb3
          obtain ⟨q0, q1⟩ := hR3.cells k x (by rw [List.getElem?_append_right (by rw [HRN.out.len]; omega), HRN.out.len, Nat.sub_self, List.getElem?_drop, Nat.add_zero]; exact HXK.out)
          have z0 := hR3.open (k * 2)
          have z1 := hR3.open (k * 2 + 1)
          obtain ⟨p1, s1, t1, e1⟩ := hny.k.shape
          obtain ⟨p2, s2, t2, e2⟩ := hny.v.shape
          obtain ⟨x1, x2, xe⟩ := y'
          simp only at e1 e2
          subst e1 e2
          simp only at HNX ⊢
          clear hye hny hb3 hR3 HAN m0 m1
          go_wp2
          exact ⟨⟨k + 1, _, by omega, by go_num, HNX.out⟩, by simp [intOf]; omega⟩
        · have hz : ¬ (k : Int) < (D.length : Int) := by omega
          have hkD : k = D.length := by omega
          have HE1 : Hid (F.map It.e = D.map It.e) := by rw [Hid, HRN.out.is, List.take_of_length_le (by omega)]
          have HE2 : Hid (NewList w.heap.size wr (.slice (some ⟨g, 0, none⟩) D.length cp) F) := by
            have h1 := HRN.out.row
            rw [List.drop_of_length_le (by omega), List.append_nil] at h1
            have h2 := h1.own hgw hcp2
            rw [HRN.out.len, hkD] at h2
            exact ⟨by rw [HRN.out.len, hkD]; exact h2, HRN.out.ents, HRN.out.apart⟩
          clear hkD
          go_wp2
          go_ret
          exact ⟨⟨p, true, _, F, rfl, HFA.out, by rw [HE1.out, HDE.out], HE2.out, HRN.out.below⟩⟩
end Go.Proofs.Ytgifnaahahfhbab
