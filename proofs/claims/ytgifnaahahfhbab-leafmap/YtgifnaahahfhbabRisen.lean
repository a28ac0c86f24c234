/- The law's own risen: of raw entries those that rise. -/
import Derived.Test.YtgifnaahahfhbabValue
namespace Go.Proofs.Ytgifnaahahfhbab
open Go.RowKit

def risE (acc : List En) (e : En) : List En :=
  match acc.getLast? with
  | none => acc ++ [e]
  | some x => if x.k < e.k then acc ++ [e] else acc
def risenE (l : List En) : List En := l.foldl risE []
theorem risenE_take {l : List En} {i : Nat} {e : En} (h : l[i]? = some e) : risenE (l.take (i + 1)) = risE (risenE (l.take i)) e := by
  unfold risenE
  rw [List.take_add_one, h, List.foldl_append]
  rfl
/-- While those that rise are put down. -/
structure Rising (w wx : World) (L : List It) (i : Nat) (vo : Value) (F : List It) : Prop where
  own : wx.ownsRow w.heap.size 25 2 vo F.length (flat F)
  is : F.map It.e = risenE ((L.map It.e).take i)
  sub : ∀ e ∈ F, e ∈ L
  len : F.length ≤ i
  low : Below w.heap.size w wx
theorem Rising.list {w wx : World} {L F : List It} {i : Nat} {vo : Value} (h : Rising w wx L i vo F) (hok : ∀ e ∈ L, e.Ok w.heap.size w) (hs : F.length * 48 ≤ 140737488355328) : ListAt wx.heap.size wx vo F := by
  refine ⟨?_, hs, fun e he => (hok e (h.sub e he)).here h.low⟩
  rcases own_row h.own with ⟨rfl, rfl⟩ | ⟨g, c, rfl, _, hc, _, hr⟩
  · exact ⟨none, 0, rfl, Nat.le_refl _, fun _ => rfl, fun j u hj => by simp [flat] at hj⟩
  · refine ⟨_, c, rfl, hc, fun h => (by cases h), fun j u hj => ⟨g, 0, rfl, hr.lt, ?_⟩⟩
    obtain ⟨cur, h1, _, h3⟩ := hr.is
    have hl := (List.getElem?_eq_some_iff.1 hj).1
    rw [flat_length] at hl
    rw [Nat.zero_add, row_cell h1, ← hj, ← h3, List.getElem?_take, if_pos hl, Array.getElem?_toList]
structure RisenPost (w : World) (L : List It) (r : Ending) (w' : World) : Prop where
  is : ∃ v' F, r = .returned v' ∧ Rising w w' L L.length v' F
theorem Rising.push {w wx w' : World} {L F : List It} {i : Nat} {vo v' : Value} {e : It} (h : Rising w wx L i vo F) (he : L[i]? = some e) (hr : risE (F.map It.e) e.e = F.map It.e ++ [e.e]) (hown : w'.ownsRow w.heap.size 25 2 v' (F ++ [e]).length (flat (F ++ [e]))) (hb : Below w.heap.size w w') : Rising w w' L (i + 1) v' (F ++ [e]) :=
  ⟨hown, by rw [risenE_take (ents_get he), ← h.is, hr, List.map_append]; rfl, fun x hx => by
    rcases List.mem_append.1 hx with h' | h'
    · exact h.sub x h'
    · simp at h'; rw [h']; exact List.mem_of_getElem? he, by rw [List.length_append]; have := h.len; simp only [List.length_singleton]; omega, hb⟩
theorem Rising.stay {w wx w' : World} {L F : List It} {i : Nat} {vo : Value} {e : It} (h : Rising w wx L i vo F) (he : L[i]? = some e) (hr : risE (F.map It.e) e.e = F.map It.e) (hb : Below wx.heap.size wx w') : Rising w w' L (i + 1) vo F :=
  ⟨own_same h.own fun k _ hl => hb.block k hl, by rw [risenE_take (ents_get he), ← h.is, hr], h.sub, by have := h.len; omega, h.low.trans (hb.mono h.low.size)⟩
theorem risE_nil {acc : List En} {e : En} (h : acc.length = 0) : risE acc e = acc ++ [e] := by
  obtain rfl := List.eq_nil_of_length_eq_zero h
  rfl
theorem risE_last {acc : List En} {e x : En} {n : Nat} (hn : acc.length = n + 1) (hx : acc[n]? = some x) : risE acc e = if x.k < e.k then acc ++ [e] else acc := by
  unfold risE
  rw [List.getLast?_eq_getElem?, hn, Nat.add_sub_cancel, hx]
theorem wrap_n {j : Nat} (h : j ≤ 140737488355328) : IntKind.i64.wrap (j : Int) = (j : Int) := by
  have : (j : Int) ≤ 140737488355328 := by omega
  simp [IntKind.wrap, IntKind.bits, IntKind.signed]; omega

set_option maxHeartbeats 1600000 in
set_option maxRecDepth 100000 in
theorem risen_any {w : World} {v : Value} {L : List It} (hL : ListAt w.heap.size w v L) :
    Calls Try.prog 13 #[v] w fun e w' => RisenPost w L e w' := by
  have hs1 := hL.short
  obtain ⟨a, c, rfl⟩ := hL.form
  have HL : Hid (ListAt w.heap.size w (.slice a L.length c) L) := hL
  clear hL
  go_enter Try.func13, Try.ntmps13
  go_wp2_with fail
  go_loopw [3, 4] (fun o i wx => ∃ (k : Nat) (F : List It), k ≤ L.length ∧ i = .int .i64 k ∧ Rising w wx L k o F) (fun _ i _ => L.length - (intOf i).toNat)
  case atStart => exact ⟨0, [], by omega, rfl, World.ownsRow_nil _ _ _ _, rfl, fun e he => by simp at he, Nat.le_refl _, Below.refl _ _⟩
  case round =>
    obtain ⟨k, F, hk, rfl, hri⟩ := hrel
    have HR : Hid _ := hri
    have hfl := hri.len
    have hfo := hri.list HL.out.ok (by omega)
    obtain ⟨af, cf, e1⟩ := hfo.form
    subst e1
    have HFO : Hid _ := hfo
    clear hri hfo
    by_cases hlt : k < L.length
    · have hz : (k : Int) < (L.length : Int) := by omega
      obtain ⟨e, he⟩ : ∃ e, L[k]? = some e := ⟨_, List.getElem?_eq_getElem hlt⟩
      have HEM : Hid (L[k]? = some e) := he
      obtain ⟨g, off, c', e1, k0, k1⟩ := (HL.out.here HR.out.low).cells k e he
      cases e1
      have heo := (HL.out.ok e (List.mem_of_getElem? he)).here HR.out.low
      have HEO : Hid _ := heo
      have e1 : ∀ q, Sem.run Try.prog (convert 23 9 e.v1) (wr.drewN q) = .ok (.string (strB e.e.k)) (wr.drewN q) := fun q => conv_key ((heo.k.at (Nat.le_refl _)).draws q)
      clear heo he
      rcases Nat.eq_zero_or_pos F.length with hf0 | hf0
      · have HRI : Hid (risE (F.map It.e) e.e = F.map It.e ++ [e.e]) := risE_nil (by rw [List.length_map]; exact hf0)
        have hf1 : ((F.length : Int) == 0) = true := by rw [hf0]; rfl
        go_wp2_with fail
        go_quiet (fail)
        have HBQ : Hid (Below wr.heap.size wr (wr.drewN nq)) := below_draws (Below.refl _ _) _
        go_wp2_with (at_builtin; go_loud (
          refine wpList_append_rows rfl _ _ rfl w.heap.size (.slice af F.length cf) _ F [e] rfl (own_same HR.out.own fun k _ hl => (HBQ.out.trans (below_new (wr.drewN nq) _)).block k hl) rfl (list_one (wr.drewN nq) e (HEO.out.here HBQ.out)) (by simp only [List.length_singleton]; omega) (Nat.le_trans HR.out.low.size (by simp)) ?_
          intro v6 w6 ho6 hk6
          have HO6 : Hid _ := ho6
          have HB6 : Hid (Below w.heap.size w w6) := (HR.out.low.trans ((HBQ.out.trans (below_new (wr.drewN nq) _)).mono HR.out.low.size)).trans hk6.low
          clear ho6 hk6))
        go_wp2
        exact ⟨⟨k + 1, F ++ [e], by omega, by go_num, HR.out.push HEM.out HRI.out HO6.out HB6.out⟩, by simp [intOf]; omega⟩
      · obtain ⟨n0, hn0⟩ : ∃ n0, F.length = n0 + 1 := ⟨F.length - 1, by omega⟩
        obtain ⟨x, hx⟩ : ∃ x, F[n0]? = some x := ⟨_, List.getElem?_eq_getElem (by omega)⟩
        obtain ⟨g', off', c'', e2, m0, m1⟩ := HFO.out.cells n0 x hx
        cases e2
        have hxo := HFO.out.ok x (List.mem_of_getElem? hx)
        have e2 : ∀ q, Sem.run Try.prog (convert 23 9 x.v1) (wr.drewN q) = .ok (.string (strB x.e.k)) (wr.drewN q) := fun q => conv_key ((hxo.k.at (Nat.le_refl _)).draws q)
        have HRL : Hid (risE (F.map It.e) e.e = if x.e.k < e.e.k then F.map It.e ++ [e.e] else F.map It.e) := risE_last (by rw [List.length_map]; exact hn0) (by rw [List.getElem?_map, hx]; rfl)
        have hf1 : ((F.length : Int) == 0) = false := by rw [beq_eq_false_iff_ne]; omega
        have hf2 : (F.length : Int) - 1 = (n0 : Int) := by omega
        have hf3 : (n0 : Int) < (F.length : Int) := by omega
        have hf4 := wrap_n (j := n0) (by omega)
        have s1 := strB_eq e.e.k x.e.k
        have s2 := strB_lt e.e.k x.e.k
        clear hxo hx hn0
        by_cases hlk : x.e.k < e.e.k
        · have HRI : Hid (risE (F.map It.e) e.e = F.map It.e ++ [e.e]) := by rw [Hid, HRL.out, if_pos hlk]
          rw [decide_eq_false (by intro h; rw [h] at hlk; exact absurd hlk (by grind))] at s1
          rw [decide_eq_false (by grind)] at s2
          clear hlk HRL
          generalize strB e.e.k = S1 at e1 s1 s2
          generalize strB x.e.k = S2 at e2 s1 s2
          go_wp2_with fail
          go_quiet (fail)
          have HBQ : Hid (Below wr.heap.size wr (wr.drewN nq)) := below_draws (Below.refl _ _) _
          go_wp2_with (at_builtin; go_loud (
            refine wpList_append_rows rfl _ _ rfl w.heap.size (.slice (some ⟨g', off', none⟩) F.length cf) _ F [e] rfl (own_same HR.out.own fun k _ hl => (HBQ.out.trans (below_new (wr.drewN nq) _)).block k hl) rfl (list_one (wr.drewN nq) e (HEO.out.here HBQ.out)) (by simp only [List.length_singleton]; omega) (Nat.le_trans HR.out.low.size (by simp)) ?_
            intro v6 w6 ho6 hk6
            have HO6 : Hid _ := ho6
            have HB6 : Hid (Below w.heap.size w w6) := (HR.out.low.trans ((HBQ.out.trans (below_new (wr.drewN nq) _)).mono HR.out.low.size)).trans hk6.low
            clear ho6 hk6))
          go_wp2
          exact ⟨⟨k + 1, F ++ [e], by omega, by go_num, HR.out.push HEM.out HRI.out HO6.out HB6.out⟩, by simp [intOf]; omega⟩
        · have HRI : Hid (risE (F.map It.e) e.e = F.map It.e) := by rw [Hid, HRL.out, if_neg hlk]
          have s3 : (Op.bytesLess (strB e.e.k).toList (strB x.e.k).toList || ((strB e.e.k).toList == (strB x.e.k).toList)) = true := by
            rw [s1, s2, Bool.or_eq_true, decide_eq_true_eq, decide_eq_true_eq]
            grind
          clear hlk HRL s1 s2
          generalize strB e.e.k = S1 at e1 s3
          generalize strB x.e.k = S2 at e2 s3
          go_wp2_with fail
          go_quiet (fail)
          go_wp2
          exact ⟨⟨k + 1, F, by omega, by go_num, HR.out.stay HEM.out HRI.out (below_draws (Below.refl _ _) _)⟩, by simp [intOf]; omega⟩
    · have hz : ¬ (k : Int) < (L.length : Int) := by omega
      have hkL : k = L.length := by omega
      have hh := HR.out
      rw [hkL] at hh
      have HR2 : Hid _ := hh
      clear hh HR hkL
      go_wp2
      go_ret
      exact ⟨_, F, rfl, HR2.out⟩
end Go.Proofs.Ytgifnaahahfhbab
