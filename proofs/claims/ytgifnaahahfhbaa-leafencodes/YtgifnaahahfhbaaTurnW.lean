/- turn: the walk. -/
import Derived.Test.YtgifnaahahfhbaaTurnA
namespace Go.Proofs.Ytgifnaahahfhbaa
open Go.RowKit

set_option maxHeartbeats 4000000 in
set_option maxRecDepth 100000 in
theorem turn_any {base : Nat} {w0 w : World} {x : Value} {l : List En} (hx : LoanAt base w0 x l) (hlo : base ≤ w0.heap.size) (hT : Ty w0.heap.size w0 w) (hw : weightE l ≤ 4294967296) :
    Calls Try.prog 15 #[x] w fun e w' => ∃ v' F, e = .returned v' ∧ (∃ gl vk vv M, x = .agg #[.slice (some ⟨gl, 0, none⟩) (l.length + 2) (l.length + 2), vk, vv] ∧ M.length = l.length ∧ M.map It.e = F.map It.e ∧ weightE (F.map It.e) = weightE l ∧ ∀ W, Ty w0.heap.size w' W → ListAt W.heap.size W (.slice (some ⟨gl, 0, none⟩) l.length (l.length + 2)) M) ∧ OutList w.heap.size w' v' F ∧ Over base w0.heap.size w w' := by
  have hwl := weightE_length l
  obtain ⟨gl, vk, vv, Z, y1, y2, rfl, his, hrow, hkeys, hvals, hok, hy1, hy2⟩ := hx.is
  have hzl : Z.length = l.length := by have := congrArg List.length his; simpa using this
  have HW : Hid (weightE (Z.map Ln.e) = weightE l ∧ weightE l ≤ 4294967296) := ⟨by rw [his], hw⟩
  rw [← hzl] at hrow hwl ⊢
  have hwb : w0.heap.size ≤ w.heap.size := hT.size
  have HGL : Hid (gl < w0.heap.size) := hrow.lt
  obtain ⟨ka, kc, rfl⟩ := own_form hkeys
  obtain ⟨va, vc, rfl⟩ := own_form hvals
  obtain ⟨W1, hW1⟩ : ∃ W1, W1 = w.alloc (.cells #[.slice (some ⟨gl, 0, none⟩) (Z.length + 2) (Z.length + 2), .slice ka Z.length kc, .slice va Z.length vc] 33) := ⟨_, rfl⟩
  have HB1 : Hid (Below w.heap.size w W1) := by rw [hW1]; exact below_new _ _
  have hT1 : Ty w0.heap.size w0 W1 := hT.trans (Ty.of HB1.out)
  have HX1 : Hid (LBox W1 w.heap.size (.slice (some ⟨gl, 0, none⟩) (Z.length + 2) (Z.length + 2)) (.slice ka Z.length kc) (.slice va Z.length vc)) := by rw [hW1]; exact ⟨heap_alloc_last _ _⟩
  have HROW : Hid (RowAt W1 gl ((Z.length + 2) * 2) (Z.map Ln.it ++ [y1, y2])) := hrow.ty hT1 hrow.lt
  have HKE : Hid (W1.ownsRow base 39 1 (.slice ka Z.length kc) Z.length (Z.map Ln.kv)) := own_ty hkeys hT1 (by decide)
  have HVA : Hid (W1.ownsRow base 39 1 (.slice va Z.length vc) Z.length (Z.map Ln.vv)) := own_ty hvals hT1 (by decide)
  have HT1 : Hid (TurnAt base w0.heap.size W1 W1 Z) := ⟨Over.refl _ _ _, fun z hz => by
    have h1 := KRow.of (hok z hz).k (by rw [ends_length]; omega)
    have h2 := KRow.of (hok z hz).v (by rw [ends_length]; omega)
    rw [ends_length] at h1 h2
    exact ⟨h1.ty hT1, h2.ty hT1⟩⟩
  have HLO : Hid (base ≤ w0.heap.size ∧ w0.heap.size ≤ w.heap.size) := ⟨hlo, hwb⟩
  have hll : Z.length ≤ 4294967296 := by omega
  have HZL : Hid (Z.length = l.length) := hzl
  clear hx hrow hkeys hvals hok hy1 hy2 his hT hT1 hw hwl hlo hwb hzl
  obtain ⟨k0, k1, k2⟩ := HX1.out.cells
  go_enter Try.func15, Try.ntmps15
  go_wp2_with fail
  rw [← hW1]
  clear hW1
  go_loopw [4] (fun i wx => ∃ k : Nat, k ≤ Z.length ∧ i = .int .i64 k ∧ TurnAt base w0.heap.size W1 wx Z) (fun i _ => Z.length - (intOf i).toNat)
  case atStart => exact ⟨0, by omega, rfl, HT1.out⟩
  case round =>
    clear k0 k1 k2
    obtain ⟨k, hk, rfl, ht⟩ := hrel
    have HT : Hid (TurnAt base w0.heap.size W1 wr Z) := ht
    obtain ⟨k0, k1, k2⟩ := (HX1.out.keep ht.over.keep (by decide)).cells
    clear ht
    by_cases hlt : k < Z.length
    · have hz : (k : Int) < (Z.length : Int) := by omega
      obtain ⟨z, hze⟩ : ∃ z, Z[k]? = some z := ⟨_, List.getElem?_eq_getElem hlt⟩
      have HZ : Hid (Z[k]? = some z) := hze
      obtain ⟨nv, hnv⟩ : ∃ nv, nv = z.e.v.length := ⟨_, rfl⟩
      obtain ⟨nk, hnk⟩ : ∃ nk, nk = z.e.k.length := ⟨_, rfl⟩
      have HNV : Hid (nv = z.e.v.length ∧ nk = z.e.k.length) := ⟨hnv, hnk⟩
      have hwe : 1 + nk + nv ≤ 4294967296 := by
        have h1 := weightE_mem (List.mem_map_of_mem (f := Ln.e) (List.mem_of_getElem? hze))
        have h2 := HW.out
        omega
      have n1 := wrap_less2 (j := nv) (by omega)
      clear hze hnv hnk
      go_wp2_with fail
      clear k0 k1 k2
      go_loopw [5] (fun j wx => ∃ t : Nat, t ≤ nv ∧ j = .int .i64 t ∧ TurnAt base w0.heap.size W1 wx Z) (fun j _ => nv - (intOf j).toNat)
      case atStart => exact ⟨0, by omega, rfl, HT.out⟩
      case round =>
        obtain ⟨t, ht, rfl, hst⟩ := hrel
        have HT2 : Hid (TurnAt base w0.heap.size W1 wr Z) := hst
        obtain ⟨k0, k1, k2⟩ := (HX1.out.keep hst.over.keep (by decide)).cells
        obtain ⟨gk, ck, e1, d0⟩ := own_cell (i := k) (own_keep HKE.out hst.over.keep (by decide)) (u := z.kv) (by rw [List.getElem?_map, HZ.out]; rfl)
        cases e1
        obtain ⟨gv, cv, e1, d1⟩ := own_cell (i := k) (own_keep HVA.out hst.over.keep (by decide)) (u := z.vv) (by rw [List.getElem?_map, HZ.out]; rfl)
        cases e1
        have hrk := hst.rows z (List.mem_of_getElem? HZ.out)
        have HRK : Hid (KRow base w0.heap.size wr z.kv (nk + 2) ∧ KRow base w0.heap.size wr z.vv (nv + 2)) := by rw [HNV.out.1, HNV.out.2]; exact hrk
        clear hst hrk
        by_cases hlt2 : t < nv
        · have hz2 : (t : Int) < (nv : Int) := by omega
          have hz3 : (t : Int) < (nv : Int) + 2 := by omega
          have hz4 : (t : Int) < ((nv + 2 : Nat) : Int) := by omega
          obtain ⟨g, c, b, ev, hc, c0, f0, hput⟩ := HRK.out.2.cell t (by omega)
          rw [ev] at d1
          have HST : Hid _ := HT2.out.put (hput (b ^^^ 85))
          have hx85 := xor85 b
          clear hput ev
          go_wp2_with fail
          go_region
          all_goals
            go_wp2
            exact ⟨⟨t + 1, by omega, by go_num, by first | exact HST.out | (rw [hx85]; exact HST.out)⟩, by simp [intOf]; omega⟩
        · have hz2 : ¬ (t : Int) < (nv : Int) := by omega
          obtain ⟨g, c, ev⟩ := HRK.out.2.form
          rw [ev] at d1
          go_wp2_with fail
          clear d1 ev
          have n2 : IntKind.i64.wrap ((Z.length : Int) - 1) = (Z.length : Int) - 1 := by simp [IntKind.wrap, IntKind.bits, IntKind.signed]; omega
          by_cases hq : k + 1 = Z.length
          · have hq1 : ((k : Int) == (Z.length : Int) - 1) = true := by rw [beq_iff_eq]; omega
            by_cases hn : nk = 0
            · obtain ⟨gy, cy, ek⟩ := HRK.out.1.form
              rw [ek, hn] at d0
              clear ek
              go_quiet (fail)
              go_wp2
              exact ⟨⟨k + 1, by omega, by go_num, HT2.out.draws _⟩, by simp [intOf]; omega⟩
            · obtain ⟨gy, cy, b, ek, hc, c0, f0, hput⟩ := HRK.out.1.cell (nk - 1) (by omega)
              have HPQ : Hid (∀ (q : Nat) (x : UInt8), Over base w0.heap.size (wr.drewN q) ((wr.drewN q).setCell ⟨gy, nk - 1, none⟩ (encB x))) := fun q x => by
                obtain ⟨g', c', b', e', _, _, _, hp⟩ := (HRK.out.1.drews q).cell (nk - 1) (by omega)
                rw [ek] at e'
                cases e'
                exact hp x
              rw [ek] at d0
              clear ek hput
              have hn1 : (0 : Int) < (nk : Int) := by omega
              have hn2 : (2 : Int) < (nk : Int) + 2 := by omega
              have hn3 : (2 : Int) < ((nk + 2 : Nat) : Int) := by omega
              obtain ⟨mk, hmk⟩ : ∃ mk, mk = nk - 1 := ⟨_, rfl⟩
              have hm1 : ((nk : Int) + 2 - 3) = (mk : Int) := by omega
              have hm2 : (((nk + 2 : Nat) : Int) - 3) = (mk : Int) := by omega
              have n3 : IntKind.i64.wrap (mk : Int) = (mk : Int) := wrap_less2 (by omega)
              have hm3 : (mk : Int) < (nk : Int) + 2 := by omega
              have hm4 : (mk : Int) < ((nk + 2 : Nat) : Int) := by omega
              rw [← hmk] at c0 f0 HPQ
              clear hmk
              by_cases hb255 : (b.toNat : Int) < 255
              · have hb1 := plusMod b hb255
                go_quiet (fail)
                go_wp2_with fail
                clear hq1 hn1 hn2 hn3 hb255
                go_region
                all_goals
                  go_wp2
                  exact ⟨⟨k + 1, by omega, by go_num, by rw [hb1]; exact (HT2.out.draws _).put0 (HPQ.out _ (b + 1))⟩, by simp [intOf]; omega⟩
              · have hb1 : decide ((b.toNat : Int) < 255) = false := decide_eq_false hb255
                go_quiet (fail)
                go_wp2
                exact ⟨⟨k + 1, by omega, by go_num, HT2.out.draws _⟩, by simp [intOf]; omega⟩
          · have hq1 : ((k : Int) == (Z.length : Int) - 1) = false := by rw [beq_eq_false_iff_ne]; omega
            go_quiet (fail)
            go_wp2
            exact ⟨⟨k + 1, by omega, by go_num, HT2.out.draws _⟩, by simp [intOf]; omega⟩
    · have hz : ¬ (k : Int) < (Z.length : Int) := by omega
      go_wp2_with fail
      have ht := HT.out
      obtain ⟨M, hM1, hM2, hM3⟩ := turned_list Z ht.rows
      have hml : M.length = Z.length := by have := congrArg List.length hM1; simpa using this
      have hfl : flat M = flat (Z.map Ln.it) := flat_pairs (by rw [hM1, List.map_map]; rfl)
      have hrow : RowAt wr gl ((Z.length + 2) * 2) (M ++ [y1, y2]) := by
        obtain ⟨cur, h1, h2, h3⟩ := (HROW.out.keep ht.over.keep (by decide)).is
        refine ⟨cur, h1, h2, ?_⟩
        rw [flat_append, hfl, ← flat_append, ← h3]
        simp [hml]
      have hsz : w.heap.size ≤ wr.heap.size := Nat.le_trans HB1.out.size ht.over.keep.low.size
      have HWS : Hid (w0.heap.size ≤ wr.heap.size) := Nat.le_trans HLO.out.2 hsz
      have HL : Hid (∀ W, Ty w0.heap.size wr W → ListAt W.heap.size W (.slice (some ⟨gl, 0, none⟩) Z.length (Z.length + 2)) M) := fun W hW => by
        have hlist := (hrow.ty hW HGL.out).list (c := Z.length + 2) (by omega) (fun e he => (hM2 e he W hW).mono (Nat.le_trans HWS.out hW.size)) (by omega)
        rw [hml] at hlist
        exact hlist
      have HM : Hid (M.length = Z.length ∧ weightE (M.map It.e) = weightE l) := ⟨hml, by rw [hM3]; exact HW.out.1⟩
      clear hrow hM1 hM2 hM3 hfl hml
      refine Calls.mono (copies_any (HL.out _ (Ty.refl _ _)) (by rw [HM.out.1]; exact hll)) ?_
      rintro e w2 ⟨v', F, rfl, hF, hout, hb2⟩
      go_wp2_with fail
      go_ret
      have hbw : base ≤ w.heap.size := Nat.le_trans HLO.out.1 HLO.out.2
      exact ⟨_, F, rfl, ⟨gl, _, _, M, rfl, HM.out.1, hF.symm, by rw [hF]; exact HM.out.2, fun W hW => HL.out W ((Ty.of hb2).trans hW)⟩, ⟨own_mono hout.own hsz, hout.ents⟩, (Over.of HB1.out hbw).trans (ht.over.trans (Over.of hb2 (Nat.le_trans hbw hsz)))⟩
end Go.Proofs.Ytgifnaahahfhbaa
