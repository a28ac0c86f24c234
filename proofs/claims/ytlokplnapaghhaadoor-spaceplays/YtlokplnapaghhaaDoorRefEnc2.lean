/- The document's Encode. -/
import Derived.Test.YtlokplnapaghhaaDoorRefEnc
namespace Go.Proofs.YtlokplnapaghhaaDoor
open Go.RowKit

set_option maxHeartbeats 1600000 in
theorem rencode_any (w : World) (b g c : Nat) (s : Sp) (h : RefAt w b g c s) :
    Calls Tryd.prog 15 #[.pointer (some ⟨b, 0, none⟩)] w fun e w' => ∃ v, e = .returned v ∧ NewB w.heap.size w' v s.enc ∧ Below w.heap.size w w' := by
  have HR := rruns_any w b g c s h
  have hl := s.runs_length
  have h1 := h.ok.high
  have HS : Hid (s.enc = be4 s.runs.length ++ encR s.runs) := rfl
  generalize s.runs = L at HR hl HS
  have hL : L.length ≤ 65536 := by omega
  clear h hl h1
  go_enter Tryd.func15, Tryd.ntmps15
  go_wp2_with (first
    | (go_at_call 13; refine HR.mono ?_; rintro e w1 ⟨v1, rfl, hv1, hb1⟩
       have HV1 : Hid _ := hv1
       have HB1 : Hid _ := hb1
       obtain ⟨a1, c1, rfl⟩ := own_slice hv1
       clear hv1 hb1)
    | (go_at_call 38; refine (four_any w1 w1.heap.size _ [] L.length (World.ownsRow_nil _ _ _ _) (by simp) (Nat.le_refl _)).mono ?_; rintro e w3 ⟨v3, rfl, hv3, hb3⟩
       have HV3 : Hid (NewB w1.heap.size w3 v3 (be4 L.length)) := hv3
       have HB3 : Hid (Below w1.heap.size w1 w3) := hb3.low
       clear hv3 hb3))
  go_loopw [4, 5] (fun u i wx => ∃ k : Nat, k ≤ L.length ∧ i = .int .i64 k ∧ NewB w1.heap.size wx u (be4 L.length ++ encR (L.take k)) ∧ Below w1.heap.size w1 wx) (fun _ i _ => L.length - (intOf i).toNat)
  case atStart => exact ⟨0, by omega, rfl, by simp only [List.take_zero, encR, List.append_nil]; exact HV3.out, HB3.out⟩
  case round =>
    obtain ⟨k, hk, rfl, hu, hbl⟩ := hrel
    by_cases hlt : k < L.length
    · have hltz : (k : Int) < (L.length : Int) := by omega
      obtain ⟨r, hr⟩ : ∃ r, L[k]? = some r := ⟨L[k]'hlt, List.getElem?_eq_getElem hlt⟩
      have hfl := flatR_at hr
      obtain ⟨gr, rfl, hg, hcell⟩ : ∃ gr, a1 = some ⟨gr, 0, none⟩ ∧ gr < w1.heap.size ∧ ∀ W, Below w1.heap.size w1 W → ∀ j u, (flatR L)[j]? = some u → W.cell? ⟨gr, j, none⟩ = some u := by
        rcases own_row HV1.out with ⟨e, h0⟩ | ⟨gr, c, e, _, hg, hc⟩
        · omega
        · injection e with e1 _ _
          exact ⟨gr, e1, hg, fun W hW j u hj => by rw [← hc j u hj]; exact hW.cell hg⟩
      have HCL : Hid (∀ W, Below w1.heap.size w1 W → W.cell? ⟨gr, k * 2, none⟩ = some (.int .i64 (r.1 : Int)) ∧ W.cell? ⟨gr, k * 2 + 1, none⟩ = some (.int .i64 (r.2 : Int))) := fun W hW => ⟨hcell W hW _ _ hfl.1, hcell W hW _ _ hfl.2⟩
      obtain ⟨hc0, hc1⟩ := HCL.out wr hbl
      have HN : Hid (be4 L.length ++ encR (L.take (k + 1)) = (be4 L.length ++ encR (L.take k) ++ be4 r.1) ++ be4 r.2) := by
        show _ = _
        rw [List.take_add_one, hr, encR_append]
        simp [encR]
      have hl0 : (be4 L.length ++ encR (L.take k)).length ≤ 1000000 := by
        have := List.length_take_le k L
        rw [List.length_append, encR_length, be4_length]; omega
      have hsz := hbl.size
      have HUA : Hid (NewB w1.heap.size wr.drew _ (be4 L.length ++ encR (L.take k))) := hu
      have HBA : Hid (Below w1.heap.size w1 wr.drew) := hbl.drew
      clear hu hbl hcell hfl hr
      go_upto_region 6 with fail
      go_region_with (first
        | (go_at_call 38; refine (four_any w4 w1.heap.size _ _ r.2 HV4.out (by rw [List.length_append, be4_length]; omega) HB4.out.size).mono ?_; rintro e w5 ⟨v5, rfl, hv5, hk5⟩
           have HV5 : Hid (NewB w1.heap.size w5 v5 ((be4 L.length ++ encR (L.take k) ++ be4 r.1) ++ be4 r.2)) := hv5
           have HB5 : Hid (Below w1.heap.size w1 w5) := HB4.out.trans hk5.low
           clear hv5 hk5)
        | (go_at_call 38; refine (four_any _ w1.heap.size _ _ r.1 HUA.out (by omega) HBA.out.size).mono ?_; rintro e w4 ⟨v4, rfl, hv4, hk4⟩
           have HV4 : Hid (NewB w1.heap.size w4 v4 (be4 L.length ++ encR (L.take k) ++ be4 r.1)) := hv4
           have HB4 : Hid (Below w1.heap.size w1 w4) := HBA.out.trans hk4.low
           obtain ⟨hd0, hd1⟩ := HCL.out w4 HB4.out
           clear hv4 hk4))
      all_goals
        go_wp2_with fail
        exact ⟨⟨k + 1, by omega, by go_num, by rw [HN.out]; exact HV5.out, HB5.out⟩, by simp [intOf]; omega⟩
    · have hltz : ¬ (k : Int) < (L.length : Int) := by omega
      have HE : Hid (L.take k = L) := List.take_of_length_le (by omega)
      rw [HE.out] at hu
      have HF : Hid _ := hu
      have HB : Hid _ := hbl
      have hsz := HB1.out.size
      clear hu hbl
      go_wp2
      go_ret
      exact ⟨_, rfl, by rw [HS.out]; exact own_mono HF.out hsz, HB1.out.trans (HB.out.mono hsz)⟩
end Go.Proofs.YtlokplnapaghhaaDoor
