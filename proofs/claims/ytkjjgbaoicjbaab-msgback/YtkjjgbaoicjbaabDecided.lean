/- decided. -/
import Derived.Test.YtkjjgbaoicjbaabFill
namespace Go.Proofs.Ytkjjgbaoicjbaab
open Go.RowKit

theorem cell_stays {w w' : World} {a : Addr} {v : Value} (hb : Below w.heap.size w w') (h : w.cell? a = some v) : w'.cell? a = some v := by
  have hl : a.block < w.heap.size := by
    rcases Nat.lt_or_ge a.block w.heap.size with h' | h'
    · exact h'
    · simp [World.cell?, Array.getElem?_eq_none h'] at h
  rw [hb.cell hl]; exact h
theorem SaidTo.keep {w wx wy : World} {M : List Ms} {k gs : Nat} {Q : List (Value × Value)} {cv : Value} {CL : List Kc} (h : SaidTo w wx M k gs Q cv CL) (hb : Below wx.heap.size wx wy) : SaidTo w wy M k gs Q cv CL :=
  ⟨h.row.here hb, h.len, h.gs, fun i q m h1 h2 => ⟨(h.keys i q m h1 h2).1.here h.low.size hb, (h.keys i q m h1 h2).2.here h.low.size hb⟩, own_same h.own fun b _ hl => hb.block b hl, h.ends, fun e he => (h.ok e he).here h.low.size hb, h.low.trans (hb.mono h.low.size)⟩
/-- The next range is said. -/
theorem SaidTo.say {w wx : World} {M : List Ms} {k gs : Nat} {Q : List (Value × Value)} {cv : Value} {CL : List Kc} (h : SaidTo w wx M k gs Q cv CL) {m : Ms} (hm : M[k]? = some m) {v1 v2 : Value} (_h1 : KeyK w.heap.size wx v1 m.rg.lo) (_h2 : KeyK w.heap.size wx v2 m.rg.hi) :
    RowR (putR wx gs k v1 v2) gs (Q ++ [(v1, v2)] ++ List.replicate (M.length - (k + 1)) nilR) ∧ Keep 25 w.heap.size wx (putR wx gs k v1 v2) := by
  have hk := (List.getElem?_eq_some_iff.1 hm).1
  refine ⟨?_, putR_keep h.row v1 v2 h.gs⟩
  have := h.row.put v1 v2 (i := k) (by simp [h.len]; omega)
  rw [List.set_append_right _ _ (by rw [h.len]; exact Nat.le_refl _), h.len, Nat.sub_self, show M.length - k = (M.length - (k + 1)) + 1 by omega, List.replicate_succ, List.set_cons_zero] at this
  simpa using this
theorem own_keep {base T s n T' : Nat} {w w' : World} {v : Value} {xs : List Value} (h : w.ownsRow base T s v n xs) {B : Nat} (hk : Keep T' B w w') (hT : T ≠ T') : w'.ownsRow base T s v n xs :=
  own_same h fun b hb _ => by
    obtain ⟨_, _, cur, hc⟩ := own_type h b hb
    rw [hc]; exact hk.typ _ _ _ _ hT hc
/-- The range is said; its ends are not put behind the others yet. -/
structure NextTo (w wy : World) (M : List Ms) (k gs : Nat) (Q : List (Value × Value)) (cv : Value) (CL : List Kc) : Prop where
  row : RowR wy gs (Q ++ List.replicate (M.length - (k + 1)) nilR)
  keys : ∀ (i : Nat) (q : Value × Value) (x : Ms), Q[i]? = some q → M[i]? = some x → KeyK w.heap.size wy q.1 x.rg.lo ∧ KeyK w.heap.size wy q.2 x.rg.hi
  own : wy.ownsRow w.heap.size 23 1 cv CL.length (CL.map Kc.v)
  ok : ∀ e ∈ CL, KeyK w.heap.size wy e.v e.k
  low : Below w.heap.size w wy
/-- Behind it, where the range is empty. -/
theorem SaidTo.next {w wx wy : World} {M : List Ms} {k gs : Nat} {Q : List (Value × Value)} {cv : Value} {CL : List Kc} (h : SaidTo w wx M k gs Q cv CL) {m : Ms} (hm : M[k]? = some m) {v1 v2 : Value} (h1 : KeyK w.heap.size wx v1 m.rg.lo) (h2 : KeyK w.heap.size wx v2 m.rg.hi) (hb : Below (putR wx gs k v1 v2).heap.size (putR wx gs k v1 v2) wy) :
    NextTo w wy M k gs (Q ++ [(v1, v2)]) cv CL := by
  obtain ⟨r1, r2⟩ := h.say hm h1 h2
  have hs : w.heap.size ≤ (putR wx gs k v1 v2).heap.size := by have := h.low.size; simpa [putR] using this
  have kk : ∀ {v : Value} {key : Key}, KeyK w.heap.size wx v key → KeyK w.heap.size wy v key := fun hv => (hv.keep r2 (by decide)).here hs hb
  refine ⟨r1.here hb, fun i q x hq hx => ?_, own_same (own_keep h.own r2 (by decide)) fun b _ hl => hb.block b hl, fun e he => kk (h.ok e he), (h.low.trans r2.low).trans (hb.mono hs)⟩
  rcases Nat.lt_or_ge i k with hi | hi
  · rw [List.getElem?_append_left (by rw [h.len]; exact hi)] at hq
    obtain ⟨a, b⟩ := h.keys i q x hq hx
    exact ⟨kk a, kk b⟩
  · rw [List.getElem?_append_right (by rw [h.len]; exact hi), h.len] at hq
    have : i = k := by
      have := (List.getElem?_eq_some_iff.1 hq).1
      simp at this; omega
    subst this
    rw [hm] at hx; cases hx
    simp at hq; subst hq
    exact ⟨kk h1, kk h2⟩

/-- The ends are put behind the others. -/
theorem NextTo.more {w wy w6 : World} {M : List Ms} {k gs : Nat} {Q : List (Value × Value)} {cv cv' : Value} {CL : List Kc} (h : NextTo w wy M k gs Q cv CL) {m : Ms} (hm : M[k]? = some m) {v1 v2 : Value} (hq : Q[k]? = some (v1, v2)) (hl : Q.length = k + 1) (hg : w.heap.size ≤ gs) (he : keysOf CL = endsM (M.take k)) (hem : m.rg.empty = false) (ho : w6.ownsRow w.heap.size 23 1 cv' (CL.length + 2) (CL.map Kc.v ++ [v1, v2])) (hk : Keep 23 w.heap.size wy w6) : SaidTo w w6 M (k + 1) gs Q cv' (CL ++ [⟨v1, m.rg.lo⟩, ⟨v2, m.rg.hi⟩]) := by
  refine ⟨h.row.keep hk (by decide), hl, hg, fun i q x hq' hx => ⟨(h.keys i q x hq' hx).1.keep hk (by decide), (h.keys i q x hq' hx).2.keep hk (by decide)⟩, ?_, ?_, fun e he' => ?_, h.low.trans hk.low⟩
  · rw [List.length_append, List.map_append]; exact ho
  · unfold keysOf at *
    rw [List.map_append, he, endsM_take hm, hem]; rfl
  · rcases List.mem_append.1 he' with h' | h'
    · exact (h.ok e h').keep hk (by decide)
    · obtain ⟨a, b⟩ := h.keys k _ m hq hm
      simp at h'
      rcases h' with rfl | rfl
      · exact a.keep hk (by decide)
      · exact b.keep hk (by decide)
theorem NextTo.none {w wy : World} {M : List Ms} {k gs : Nat} {Q : List (Value × Value)} {cv : Value} {CL : List Kc} (h : NextTo w wy M k gs Q cv CL) {m : Ms} (hm : M[k]? = some m) (hl : Q.length = k + 1) (hg : w.heap.size ≤ gs) (he : keysOf CL = endsM (M.take k)) (hem : m.rg.empty = true) : SaidTo w wy M (k + 1) gs Q cv CL :=
  ⟨h.row, hl, hg, h.keys, h.own, by rw [he, endsM_take hm, hem]; simp, h.ok, h.low⟩
theorem news2 (w : World) (v1 v2 : Value) (j : Nat) (u : Value) (hj : [v1, v2][j]? = some u) : (w.alloc (.cells #[v1, v2] 23)).cell? ((⟨w.heap.size, 0, none⟩ : Addr).add j) = some u := by
  rw [add_at, row_cell (heap_alloc_last w _)]
  simpa using hj
theorem own_form' {w : World} {base n s : Nat} {T : TypeId} {v : Value} {xs : List Value} (h : w.ownsRow base T s v n xs) : ∃ a c, v = .slice a n c := by
  obtain ⟨_, ⟨e, h0⟩ | ⟨g, cap, cur, e, _⟩⟩ := h
  · exact ⟨_, _, by rw [e, h0]⟩
  · exact ⟨_, _, e⟩
/-- What decided gives. -/
structure DecPost (w : World) (M : List Ms) (r : Ending) (w' : World) : Prop where
  is : ∃ (cv : Value) (D : List Kc) (gl : Nat), r = .returned (.tuple #[cv, .slice (some ⟨gl, 0, none⟩) D.length D.length]) ∧ IsCuts M (keysOf D) ∧ KeysV w.heap.size w' cv D ∧ (∀ e ∈ D, KeyK w.heap.size w' e.v e.k) ∧ w.heap.size ≤ gl ∧ RowI w' gl ((keysOf D).map (lastM M)) ∧ Below w.heap.size w w' ∧ D.length ≤ 2 * M.length

set_option maxHeartbeats 6400000 in
set_option maxRecDepth 100000 in
theorem decided_any {w : World} {v : Value} {L : List Mt} (hL : MsgsAt w.heap.size w v L) (hlo : ∀ e ∈ L, e.m.lo.length ≤ 4294967296) :
    Calls Try.prog 26 #[v] w fun r w' => DecPost w (msOf L) r w' := by
  obtain ⟨iR, hiR, hzR0, hzR1, hzR2⟩ := infoR'
  obtain ⟨iB, hiB, hzB0, hzB1, hzB2⟩ := infoB'
  have hsh := hL.short
  obtain ⟨a, c, rfl⟩ := hL.form
  have HL : Hid (MsgsAt w.heap.size w (.slice a L.length c) L) := hL
  have HLO : Hid (∀ e ∈ L, e.m.lo.length ≤ 4294967296) := hlo
  clear hL hlo
  go_enter Try.func26, Try.ntmps26
  go_wp2_with (at_make; refine wpList_make_full _ rfl _ _ 86 rfl w.heap.size 25 iR (.agg #[.slice none 0 0, .slice none 0 0, .bool false]) 3 Try.underlying86 hiR hzR0 hzR1 _ _ _ _ L.length rfl rfl (by omega) (by omega) (by rw [hzR2]; omega) (by unfold maxLen; omega) (Nat.le_refl _) ?_
               intro w0 hown0 hg0
               rw [madeRanges] at hown0
               have HB0 : Hid (Below w.heap.size w w0) := (Below.refl _ _).grown hg0 (Nat.le_refl _) (fun k h => by cases h)
               have HR0 : Hid (RowR w0 w.heap.size (List.replicate L.length nilR)) := by
                 refine ⟨?_⟩
                 obtain ⟨hl, hr⟩ := hown0
                 rcases hr with ⟨e, _⟩ | ⟨g', cap, cur, e, _, hg, _, _, hs, ht⟩
                 · cases e
                 · cases e
                   rw [hg, show cur = (flatR (List.replicate L.length nilR)).toArray by rw [← ht, List.take_of_length_le (by simp [hs])]]
               clear hown0 hg0)
  go_loopw [2, 19] (fun cv i wx => ∃ (k : Nat) (Q : List (Value × Value)) (CL : List Kc), k ≤ L.length ∧ i = .int .i64 (k : Int) ∧ SaidTo w wx (msOf L) k w.heap.size Q cv CL) (fun _ i _ => L.length - (intOf i).toNat)
  case atStart =>
    refine ⟨0, [], [], by omega, rfl, ⟨?_, rfl, Nat.le_refl _, fun i q m h => by simp at h, World.ownsRow_nil _ _ _ _, rfl, fun e he => by simp at he, HB0.out⟩⟩
    rw [msOf_length]; exact HR0.out
  case round =>
    obtain ⟨k, Q, CL, hk, rfl, hsd⟩ := hrel
    have HS : Hid (SaidTo w wr (msOf L) k w.heap.size Q u2 CL) := hsd
    clear hsd HR0 HB0
    by_cases hlt : k < L.length
    · have hz : (k : Int) < (L.length : Int) := by omega
      obtain ⟨e, he⟩ : ∃ e, L[k]? = some e := ⟨_, List.getElem?_eq_getElem hlt⟩
      have hL := HL.out.below HS.out.low
      have hsz := HS.out.low.size
      obtain ⟨g, off, c', e1, k0, k1, k2, k3, k4⟩ := hL.cells k e he
      cases e1
      have hok := hL.ok e (List.mem_of_getElem? he)
      have HM : Hid ((msOf L)[k]? = some e.m) := msOf_get he
      have hll := HLO.out e (List.mem_of_getElem? he)
      have HOK : Hid (e.Ok w.heap.size wr) := hok
      obtain ⟨a1, c1, f1⟩ := hok.lo.form
      obtain ⟨a2, c2, f2⟩ := hok.hi.form
      obtain ⟨a3, c3, f3⟩ := hok.va.form
      clear he hL hok
      obtain ⟨v1, v2, v3, m⟩ := e
      simp only at f1 f2 f3 k0 k1 k2 k3 k4 HM hll
      subst f1 f2 f3
      obtain ⟨W, hW⟩ : ∃ W, W = wr.alloc (.cells #[.int .u64 (m.st : Int), .int .i64 m.kd, .slice a1 m.lo.length c1, .slice a2 m.hi.length c2, .slice a3 m.va.length c3] 38) := ⟨_, rfl⟩
      have HWB : Hid (Below wr.heap.size wr W) := by rw [hW]; exact below_new _ _
      have HDO := deedOf_any ((HOK.out.mono hsz).here HWB.out)
      unfold Mt.val at HDO
      simp only at HDO
      obtain ⟨T, y, F, hinv, hkey⟩ := keys_deed (base := w.heap.size) ⟨.slice a1 m.lo.length c1, .slice a2 m.hi.length c2, .slice a3 m.va.length c3, m⟩ (by simp only; omega)
      have hmt := hinv.method
      have hen := hinv.enters
      rw [hinv.is] at HDO
      have HKE : Hid _ := hkey
      clear hinv hkey
      go_wp2_with fail
      rw [← hW]
      clear hW
      refine HDO.mono ?_
      rintro r w1 ⟨rfl, hb1⟩
      have HB1 : Hid (Below wr.heap.size wr w1) := HWB.out.trans (hb1.mono HWB.out.size)
      have HK1 := HKE.out w1 (HOK.out.below (HB1.out.mono hsz)) (Nat.le_trans hsz HB1.out.size)
      clear hb1 HDO k0 k1 k2 k3 k4
      go_wp2_with fail
      refine HK1.mono ?_
      rintro r w2 ⟨y1, y2, rfl, g1, g2, hb2⟩
      have HB2 : Hid (Below wr.heap.size wr w2) := HB1.out.trans (hb2.mono HB1.out.size)
      have HS2 : Hid (SaidTo w w2 (msOf L) k w.heap.size Q u2 CL) := HS.out.keep HB2.out
      have HG1 : Hid (KeyK w.heap.size w2 y1 m.rg.lo) := g1
      have HG2 : Hid (KeyK w.heap.size w2 y2 m.rg.hi) := g2
      obtain ⟨p1, q1, z1⟩ := g1.one
      obtain ⟨p2, q2, z2⟩ := g2.one
      have hq : (Q ++ List.replicate ((msOf L).length - k) nilR)[k]? = some nilR := by
        rw [List.getElem?_append_right (by rw [HS2.out.len]; exact Nat.le_refl _), HS2.out.len, Nat.sub_self, List.getElem?_replicate, if_pos (by rw [msOf_length]; omega)]
      obtain ⟨m0, m1, m2⟩ := HS2.out.row.cells hq
      have o0 := HS2.out.row.open (k * 3)
      have o1 := HS2.out.row.open (k * 3 + 1)
      have o2 := HS2.out.row.open (k * 3 + 2)
      subst z1 z2
      obtain ⟨W3, hW3⟩ : ∃ W3, W3 = putR w2 w.heap.size k (.slice p1 m.rg.lo.length q1) (.slice p2 m.rg.hi.length q2) := ⟨_, rfl⟩
      have HNX : Hid (∀ wy, Below W3.heap.size W3 wy → NextTo w wy (msOf L) k w.heap.size (Q ++ [(.slice p1 m.rg.lo.length q1, .slice p2 m.rg.hi.length q2)]) u2 CL) := by rw [hW3]; exact fun wy hb => HS2.out.next HM.out HG1.out HG2.out hb
      have hrr := HNX.out W3 (Below.refl _ _)
      have hq3 : (Q ++ [((Value.slice p1 m.rg.lo.length q1), (Value.slice p2 m.rg.hi.length q2))] ++ List.replicate ((msOf L).length - (k + 1)) nilR)[k]? = some (.slice p1 m.rg.lo.length q1, .slice p2 m.rg.hi.length q2) := by
        rw [List.getElem?_append_left (by simp [HS2.out.len]), List.getElem?_append_right (by rw [HS2.out.len]; exact Nat.le_refl _), HS2.out.len, Nat.sub_self]; rfl
      obtain ⟨n0, n1, n2⟩ := hrr.row.cells hq3
      have hra : RangeAt W3 (.agg #[.slice p1 m.rg.lo.length q1, .slice p2 m.rg.hi.length q2, .bool false]) m.rg := by
        have hkk := hrr.keys k _ m (by rw [List.getElem?_append_right (by rw [HS2.out.len]; exact Nat.le_refl _), HS2.out.len, Nat.sub_self]; rfl) HM.out
        exact ⟨_, _, by rw [m.rg_all], hkk.1.at hrr.low.size, hkk.2.at hrr.low.size⟩
      have HEM := empty_any hra
      clear hb2 HK1 g1 g2 hrr hra hq hq3
      unfold putR at hW3
      have HQK : Hid ((Q ++ [((Value.slice p1 m.rg.lo.length q1), (Value.slice p2 m.rg.hi.length q2))])[k]? = some (.slice p1 m.rg.lo.length q1, .slice p2 m.rg.hi.length q2)) := by
        rw [Hid, List.getElem?_append_right (by rw [HS2.out.len]; exact Nat.le_refl _), HS2.out.len, Nat.sub_self]; rfl
      have HQL : Hid ((Q ++ [((Value.slice p1 m.rg.lo.length q1), (Value.slice p2 m.rg.hi.length q2))]).length = k + 1) := by simp [Hid, HS2.out.len]
      have HEN : Hid (keysOf CL = endsM ((msOf L).take k)) := HS2.out.ends
      go_wp2_with fail
      rw [← hW3]
      clear hW3 m0 m1 m2 o0 o1 o2 n0 n1 n2 hmt hen
      refine HEM.mono ?_
      rintro r w4 ⟨rfl, hb4⟩
      have HB4 : Hid (Below W3.heap.size W3 w4) := hb4
      have HN4 : Hid (NextTo w w4 (msOf L) k w.heap.size (Q ++ [(.slice p1 m.rg.lo.length q1, .slice p2 m.rg.hi.length q2)]) u2 CL) := HNX.out w4 hb4
      clear hb4 HEM
      cases hem : m.rg.empty with
      | true =>
        have HSN : Hid _ := HN4.out.none HM.out HQL.out (Nat.le_refl _) HEN.out hem
        clear hem
        go_wp2
        exact ⟨⟨k + 1, _, _, by omega, by go_num, HSN.out⟩, by simp [intOf]; omega⟩
      | false =>
        obtain ⟨ua, uc, hu⟩ := own_form' HN4.out.own
        have hcl : CL.length ≤ 2 * L.length := by
          have h1 := congrArg List.length HEN.out
          have h2 := endsM_length ((msOf L).take k)
          rw [keysOf_length] at h1
          rw [List.length_take, msOf_length] at h2
          omega
        have HCL : Hid (CL.length ≤ 2 * L.length) := hcl
        obtain ⟨n0, n1, n2⟩ := HN4.out.row.cells (i := k) (by rw [List.getElem?_append_left (by rw [HQL.out]; omega)]; exact HQK.out)
        have HOW : Hid (∀ W', Below w4.heap.size w4 W' → W'.ownsRow w.heap.size 23 1 (.slice ua CL.length uc) CL.length (CL.map Kc.v)) := fun W' hb => by rw [← hu]; exact own_same HN4.out.own fun b _ hl => hb.block b hl
        have HEMP : Hid (m.rg.empty = false) := hem
        have HS4 : Hid (w.heap.size ≤ w4.heap.size) := HN4.out.low.size
        obtain ⟨V1, hV1⟩ : ∃ V1, V1 = Value.slice p1 m.rg.lo.length q1 := ⟨_, rfl⟩
        obtain ⟨V2, hV2⟩ : ∃ V2, V2 = Value.slice p2 m.rg.hi.length q2 := ⟨_, rfl⟩
        have HN2 : Hid (∀ j u, [Value.slice p1 m.rg.lo.length q1, Value.slice p2 m.rg.hi.length q2][j]? = some u → (w4.alloc (.cells #[.slice p1 m.rg.lo.length q1, .slice p2 m.rg.hi.length q2] 23)).cell? ((⟨w4.heap.size, 0, none⟩ : Addr).add j) = some u) := news2 w4 _ _
        have HON : Hid (∀ u ∈ [Value.slice p1 m.rg.lo.length q1, Value.slice p2 m.rg.hi.length q2], u.oneCell' = true) := fun u hu => by simp at hu; rcases hu with rfl | rfl <;> rfl
        have HNW : Hid (NextTo w (w4.alloc (.cells #[.slice p1 m.rg.lo.length q1, .slice p2 m.rg.hi.length q2] 23)).drew (msOf L) k w.heap.size (Q ++ [(.slice p1 m.rg.lo.length q1, .slice p2 m.rg.hi.length q2)]) (.slice ua CL.length uc) CL) := by
          rw [← hu]; exact HNX.out _ (HB4.out.trans ((below_new _ _).drew.mono HB4.out.size))
        have hkz : (k : Int) < (L.length : Int) := hz
        rw [hu]
        clear hem hu hcl hV1 hV2
        go_wp2_with fail
        go_region_law (refine step_append_lies _ (by rfl) _ _ 61 (by rfl) w.heap.size 23 iB (.slice none 0 0) 1 24 Try.underlying61 hiB hzB0 hzB1 hzB2 rfl (by decide) (.slice ua CL.length uc) CL.length (CL.map Kc.v) (by simp [Act.eval]) (by exact HOW.out _ ((below_new _ _).drew)) ⟨w4.heap.size, 0, none⟩ 2 2 [.slice p1 m.rg.lo.length q1, .slice p2 m.rg.hi.length q2] (by simp [Act.eval]) rfl (by exact HN2.out) HON.out (by decide) (by unfold maxLen; have := HCL.out; omega) (by have := HCL.out; omega) (by have := HS4.out; simp; omega) _ rfl ?_
                       intro g6 c6 w6 ho6 hg6 _ _
                       have HSN : Hid _ := HNW.out.more HM.out HQK.out HQL.out (Nat.le_refl _) HEN.out HEMP.out ho6 (keep_grown HNW.out.own hg6 HNW.out.low.size)
                       clear ho6 hg6)
        all_goals
          simp [Act.put]
          go_wp2
          exact ⟨⟨k + 1, _, _, by omega, by first | rfl | go_num, HSN.out⟩, by simp [intOf]; omega⟩
    · have hz : ¬ (k : Int) < (L.length : Int) := by omega
      obtain rfl : k = L.length := by omega
      have hsz := HS.out.low.size
      have hen : keysOf CL = endsM (msOf L) := by
        have := HS.out.ends
        rw [List.take_of_length_le (by rw [msOf_length]; exact Nat.le_refl _)] at this
        exact this
      have hcl : CL.length ≤ 2 * L.length := by
        have h1 := congrArg List.length hen
        have h2 := endsM_length (msOf L)
        rw [keysOf_length] at h1
        rw [msOf_length] at h2
        omega
      have HRW : Hid (RowR wr w.heap.size Q) := by
        have := HS.out.row
        rw [msOf_length, Nat.sub_self] at this
        simpa [Hid] using this
      have HQL : Hid (Q.length = L.length) := HS.out.len
      have HEN : Hid (keysOf CL = endsM (msOf L)) := hen
      have HSO := sortV_any hsz (own_keysV HS.out.own (by omega)) HS.out.ok (by omega)
      clear hen
      go_wp2_with fail
      refine HSO.mono ?_
      rintro r w1 ⟨rfl, E, hperm, hsort, hv1, hk1⟩
      have HOK1 : Hid (∀ e ∈ E, KeyK w.heap.size w1 e.v e.k) := fun e he => (HS.out.ok e (hperm.mem_iff.1 he)).keep hk1 (by decide)
      have hs1 : w.heap.size ≤ w1.heap.size := Nat.le_trans hsz hk1.low.size
      have HTH := thin_any hs1 hv1 HOK1.out hsort
      have HK1 : Hid (Keep 23 w.heap.size wr w1) := hk1
      have HPM : Hid (E.Perm CL) := hperm
      clear hperm hsort hv1 hk1 HSO
      go_wp2_with fail
      refine HTH.mono ?_
      rintro r w2 ⟨cv, D, rfl, hv2, hrise, hsub, hall, hdle, hk2⟩
      have HRI : Hid ((keysOf D).Pairwise (· < ·)) := hrise
      have HCU : Hid (IsCuts (msOf L) (keysOf D)) := by
        refine isCuts_of hrise fun x => ?_
        rw [← HEN.out]
        constructor
        · intro hx
          obtain ⟨e, he, rfl⟩ := List.mem_map.1 hx
          exact List.mem_map_of_mem (HPM.out.mem_iff.1 (hsub e he))
        · intro hx
          obtain ⟨e, he, rfl⟩ := List.mem_map.1 hx
          obtain ⟨y, hy, h⟩ := hall e (HPM.out.mem_iff.2 he)
          rw [← h]; exact List.mem_map_of_mem hy
      have hdl : D.length ≤ 140737488355328 := hv2.short
      have HST2 : Hid (Stat w w2 (msOf L) D cv w.heap.size Q) := by
        have hkk := HK1.out.trans hk2
        exact ⟨HRW.out.keep hkk (by decide), fun i q m hq hm => ⟨(HS.out.keys i q m hq hm).1.keep hkk (by decide), (HS.out.keys i q m hq hm).2.keep hkk (by decide)⟩, hv2, fun e he => (HOK1.out e (hsub e he)).keep hk2 (by decide), HS.out.low.trans hkk.low⟩
      obtain ⟨da, dc, hdv⟩ := hv2.form
      have hdn : D.length ≤ 2 * L.length := by have := HPM.out.length_eq; omega
      clear hv2 hrise hsub hall hk2 HTH HOK1 HK1 HRW hdle hcl
      rw [hdv]
      rw [hdv] at HST2
      clear hdv
      obtain ⟨W3, hW3⟩ : ∃ W3, W3 = w2.alloc (.cells #[.int .i64 (-1)] 3) := ⟨_, rfl⟩
      have HB3 : Hid (Below w2.heap.size w2 W3) := by rw [hW3]; exact below_new _ _
      have HRE := repeat_any (w := W3) (b := w2.heap.size) (n := D.length) (by rw [hW3, row_cell (heap_alloc_last w2 _)]; rfl) (by omega)
      go_wp2_with fail
      rw [← hW3]
      clear hW3
      refine HRE.mono ?_
      rintro r w4 ⟨gl, rfl, hgl, hrl, hb4⟩
      have HB4 : Hid (Below w2.heap.size w2 w4) := HB3.out.trans (hb4.mono HB3.out.size)
      have HRL : Hid (RowI w4 gl (List.replicate D.length (-1))) := hrl
      have HGL : Hid (w.heap.size ≤ gl) := Nat.le_trans HST2.out.low.size (Nat.le_trans HB3.out.size hgl)
      have HNP := newPlaces_any w4 D.length (by omega)
      clear hgl hrl hb4 HRE
      go_wp2_with fail
      refine HNP.mono ?_
      rintro r w5 ⟨rfl, hro, hb5⟩
      obtain ⟨GO, hGO⟩ : ∃ GO, GO = w4.heap.size := ⟨_, rfl⟩
      rw [← hGO] at hro
      rw [← hGO]
      have HNE : Hid (gl ≠ GO) := by have := HRL.out.lt; rw [Hid, hGO]; omega
      have HGO : Hid (w.heap.size ≤ GO) := by rw [Hid, hGO]; exact Nat.le_trans HST2.out.low.size HB4.out.size
      have HB5 : Hid (Below w2.heap.size w2 w5) := HB4.out.trans (hb5.mono HB4.out.size)
      have HL5 : Hid (RowI w5 gl ((keysOf D).map (lastD (msOf L) (msOf L).length))) := by
        rw [Hid, ← last_start, keysOf_length]; exact HRL.out.here hb5
      have HO5 : Hid (RowI w5 GO (natI (List.range (D.length + 1)))) := hro
      have HST5 : Hid (Stat w w5 (msOf L) D (.slice da D.length dc) w.heap.size Q) := HST2.out.keep (T := 3) (Keep.of HB5.out HST2.out.low.size) (by decide) (by decide) (by decide)
      have HP5 : Hid (Pl D.length (shutL ((keysOf D).map (lastD (msOf L) (msOf L).length))) (List.range (D.length + 1))) := by
        have := open_start (msOf L) (keysOf D)
        rw [keysOf_length] at this
        exact this
      clear hro hb5 HNP hGO HRL HB3 HB4 HST2
      go_wp2_with fail
      go_loopw [8] (fun u wx => ∃ (j : Nat) (P : List Nat) (z : Int), j ≤ L.length ∧ u = .int .i64 z ∧ z = (j : Int) - 1 ∧ RowI wx gl ((keysOf D).map (lastD (msOf L) j)) ∧ Pl D.length (shutL ((keysOf D).map (lastD (msOf L) j))) P ∧ RowI wx GO (natI P) ∧ Stat w wx (msOf L) D (.slice da D.length dc) w.heap.size Q) (fun u _ => (intOf u + 1).toNat)
      case atStart =>
        have e := msOf_length L
        exact ⟨L.length, _, _, Nat.le_refl _, rfl, by first | rfl | omega, by rw [← e]; exact HL5.out, by rw [← e]; exact HP5.out, HO5.out, HST5.out⟩
      case round =>
        obtain ⟨j, P, z, hj, rfl, hzj, hrl, hpl, hro, hst⟩ := hrel
        have HRL : Hid (RowI wr gl ((keysOf D).map (lastD (msOf L) j))) := hrl
        have HPL : Hid (Pl D.length (shutL ((keysOf D).map (lastD (msOf L) j))) P) := hpl
        have HRO : Hid (RowI wr GO (natI P)) := hro
        have HST : Hid (Stat w wr (msOf L) D (.slice da D.length dc) w.heap.size Q) := hst
        clear hrl hpl hro hst HL5 HP5 HO5 HST5
        cases j with
        | zero =>
          have hz0 : ¬ (0 : Int) ≤ z := by omega
          have HP : Hid (DecPost w (msOf L) (.returned (.tuple #[.slice da D.length dc, .slice (some ⟨gl, 0, none⟩) D.length D.length])) wr) := by
            refine ⟨_, D, gl, rfl, HCU.out, HST.out.cuts, HST.out.ok, HGL.out, ?_, HST.out.low, by rw [msOf_length]; exact hdn⟩
            have := HRL.out
            rw [last_end] at this
            exact this
          clear hzj
          go_wp2
          go_ret2
          exact HP.out
        | succ j =>
          have hz0 : (0 : Int) ≤ z := by omega
          obtain rfl : z = (j : Int) := by omega
          have hjl : (j : Int) < (L.length : Int) := by omega
          obtain ⟨qq, hqq⟩ : ∃ qq, Q[j]? = some qq := ⟨_, List.getElem?_eq_getElem (by rw [HQL.out]; omega)⟩
          obtain ⟨m, hm⟩ : ∃ m, (msOf L)[j]? = some m := ⟨_, List.getElem?_eq_getElem (by rw [msOf_length]; omega)⟩
          obtain ⟨kl, kh⟩ := HST.out.keys j qq m hqq hm
          obtain ⟨n0, n1, n2⟩ := HST.out.row.cells hqq
          have HM : Hid ((msOf L)[j]? = some m) := hm
          have hbw := HST.out.low.size
          have HKL : Hid (KeyAt wr qq.1 m.rg.lo) := kl.at hbw
          have HKH : Hid (KeyAt wr qq.2 m.rg.hi) := kh.at hbw
          have HSE := searchK_any hbw HST.out.cuts HST.out.ok HRI.out HKL.out
          clear hzj hqq hm kl kh
          go_wp2_with fail
          refine HSE.mono ?_
          rintro r w6 ⟨f, bf, rfl, hpf, q6, rfl⟩
          have HPF : Hid (Place (keysOf D) m.rg.lo f) := hpf
          have HST6 : Hid (Stat w (wr.drewN q6) (msOf L) D (.slice da D.length dc) w.heap.size Q) := HST.out.keep (T := 3) ((Keep.refl _ _ _).draws _) (by decide) (by decide) (by decide)
          have HSE2 := searchK_any (w := wr.drewN q6) hbw HST6.out.cuts HST6.out.ok HRI.out (HKH.out.draws q6)
          clear hpf HSE
          go_wp2_with fail
          refine HSE2.mono ?_
          rintro r w7 ⟨t, bt, rfl, hpt, q7, rfl⟩
          have HPT : Hid (Place (keysOf D) m.rg.hi t) := hpt
          obtain ⟨W7, hW7⟩ : ∃ W7, W7 = (wr.drewN q6).drewN q7 := ⟨_, rfl⟩
          have HK7 : Hid (Keep 3 w.heap.size wr W7) := by rw [hW7]; exact ((Keep.refl _ _ _).draws _).draws _
          have HRL7 : Hid (RowI W7 gl ((keysOf D).map (lastD (msOf L) (j + 1)))) := by rw [hW7]; exact HRL.out.block rfl
          have HRO7 : Hid (RowI W7 GO (natI P)) := by rw [hW7]; exact HRO.out.block rfl
          rw [← hW7]
          have hfl : f ≤ D.length := by have := HPF.out.le; rwa [keysOf_length] at this
          have htl : t ≤ D.length := by have := HPT.out.le; rwa [keysOf_length] at this
          have HFR := from_any (a := f) HRO7.out HPL.out hfl (by omega)
          clear hpt hW7 HSE2 HST6 n0 n1 n2 HKL HKH
          go_wp2_with fail
          refine HFR.mono ?_
          rintro r w8 ⟨a8, P8, rfl, t1, t2, t3, t4, t5, t6, t7⟩
          have HSL : Hid (((keysOf D).map (lastD (msOf L) (j + 1))).length = D.length) := by rw [Hid, List.length_map, keysOf_length]
          have HF8 : Hid (Filled ((keysOf D).map (lastD (msOf L) (j + 1))) ((keysOf D).map (lastD (msOf L) (j + 1))) f t (j : Int) a8 P8) := Filled.start t1 (by rw [HSL.out]; exact t2) t3 t4 (by rw [HSL.out]; exact t5)
          have HR8 : Hid (RowI w8 GO (natI P8)) := t6
          have HL8 : Hid (RowI w8 gl ((keysOf D).map (lastD (msOf L) (j + 1)))) := HRL7.out.block (t7.rest gl HNE.out)
          have HK8 : Hid (Keep 3 w.heap.size wr w8) := HK7.out.trans (but_keep HRO7.out t7 HGO.out)
          clear t1 t2 t3 t4 t5 t6 t7 HFR
          go_wp2_with fail
          go_loopw [13] (fun u wy => ∃ (a9 : Nat) (S' : List Int) (P' : List Nat), u = .int .i64 (a9 : Int) ∧ Filled ((keysOf D).map (lastD (msOf L) (j + 1))) S' f t (j : Int) a9 P' ∧ RowI wy gl S' ∧ RowI wy GO (natI P') ∧ Keep 3 w.heap.size w8 wy) (fun u _ => D.length - (intOf u).toNat)
          case atStart => exact ⟨a8, _, P8, rfl, HF8.out, HL8.out, HR8.out, Keep.refl _ _ _⟩
          case round =>
            obtain ⟨a9, S', P', rfl, hfil, hrl, hro, hk9⟩ := hrel
            have HFL : Hid (Filled ((keysOf D).map (lastD (msOf L) (j + 1))) S' f t (j : Int) a9 P') := hfil
            have HL9 : Hid (RowI wr gl S') := hrl
            have HO9 : Hid (RowI wr GO (natI P')) := hro
            have HKB : Hid (Keep 3 w.heap.size w8 wr) := hk9
            have hal : a9 ≤ D.length := by have := hfil.len; rwa [HSL.out] at this
            clear hfil hrl hro hk9 HF8 HL8 HR8 HRL7 HRO7 HK7 HRL HRO HPL
            by_cases hat : a9 < t
            · have hati : (a9 : Int) < (t : Int) := by omega
              have had : (a9 : Int) < (D.length : Int) := by omega
              obtain ⟨x9, hx9⟩ : ∃ x, S'[a9]? = some x := ⟨_, List.getElem?_eq_getElem (by rw [HFL.out.length, HSL.out]; omega)⟩
              have c1 := HL9.out.cell hx9
              have o1 := HL9.out.open a9
              obtain ⟨WA, hWA⟩ : ∃ WA, WA = wr.setCell ⟨gl, a9, none⟩ (.int .i64 (j : Int)) := ⟨_, rfl⟩
              have HLA : Hid (RowI WA gl (S'.set a9 (j : Int))) := by rw [hWA]; exact HL9.out.set a9 _
              have HBA : Hid (But gl wr WA) := by rw [hWA]; exact But.set _ _ _ _
              have HOA : Hid (RowI WA GO (natI P')) := HO9.out.block (HBA.out.rest GO HNE.out.symm)
              have HSH := shut_any (n := D.length) (a := a9) HOA.out (by omega) (by have := HFL.out.pl.len; rw [HSL.out] at this; exact this) (by omega)
              clear hx9
              go_wp2_with fail
              rw [← hWA]
              clear hWA c1 o1
              refine HSH.mono ?_
              rintro r wb ⟨rfl, hrb, hbb⟩
              have HLB : Hid (RowI wb gl (S'.set a9 (j : Int))) := HLA.out.block (hbb.rest gl HNE.out)
              have HKC : Hid (Keep 3 w.heap.size wr wb) := (but_keep HL9.out HBA.out HGL.out).trans (but_keep HOA.out hbb HGO.out)
              have HRB : Hid (RowI wb GO (natI (P'.set a9 (a9 + 1)))) := hrb
              have HPB := HFL.out.shut hat (by rw [HSL.out]; exact htl)
              rw [HSL.out] at HPB
              have HFR := from_any (a := a9) hrb HPB hal (by omega)
              clear hrb hbb HPB HSH HLA HBA HOA HO9 HL9
              go_wp2_with fail
              refine HFR.mono ?_
              rintro r wc ⟨a2, P2, rfl, t1, t2, t3, t4, t5, t6, t7⟩
              obtain ⟨hlt, hfl2⟩ := HFL.out.step hat (by rw [HSL.out]; exact htl) t1 (by rw [HSL.out]; exact t2) t3 t4 (by rw [HSL.out]; exact t5)
              have HG : Hid (∃ (a9 : Nat) (S' : List Int) (P' : List Nat), Value.int .i64 (a2 : Int) = .int .i64 (a9 : Int) ∧ Filled ((keysOf D).map (lastD (msOf L) (j + 1))) S' f t (j : Int) a9 P' ∧ RowI wc gl S' ∧ RowI wc GO (natI P') ∧ Keep 3 w.heap.size w8 wc) :=
                ⟨a2, _, P2, rfl, hfl2, HLB.out.block (t7.rest gl HNE.out), t6, HKB.out.trans (HKC.out.trans (but_keep HRB.out t7 HGO.out))⟩
              clear hfl2 t1 t3 t4 t5 t6 t7 HFR HFL HLB HKC HRB
              go_wp2
              exact ⟨HG.out, by simp only [intOf]; omega⟩
            · have hati : ¬ (a9 : Int) < (t : Int) := by omega
              have HE : Hid (S' = (keysOf D).map (lastD (msOf L) j)) := Filled.end HFL.out (by omega) HM.out HPF.out HPT.out
              have HLE : Hid (RowI wr gl ((keysOf D).map (lastD (msOf L) j))) := by have := HL9.out; rw [HE.out] at this; exact this
              have HPE : Hid (Pl D.length (shutL ((keysOf D).map (lastD (msOf L) j))) P') := by have := HFL.out.pl; rw [HE.out, HSL.out] at this; exact this
              have HSE : Hid (Stat w wr (msOf L) D (.slice da D.length dc) w.heap.size Q) := HST.out.keep (HK8.out.trans HKB.out) (by decide) (by decide) (by decide)
              clear HE HFL HL9 HM HPF HPT HST
              go_wp2
              exact ⟨⟨j, P', _, by omega, rfl, by go_num, HLE.out, HPE.out, HO9.out, HSE.out⟩, by simp only [intOf]; omega⟩
end Go.Proofs.Ytkjjgbaoicjbaab
