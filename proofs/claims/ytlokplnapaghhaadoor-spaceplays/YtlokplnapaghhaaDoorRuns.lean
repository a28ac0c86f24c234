/- Runs, Encode. -/
import Derived.Test.YtlokplnapaghhaaDoorRows1
namespace Go.Proofs.YtlokplnapaghhaaDoor
open Go.RowKit

set_option maxHeartbeats 1000000 in
theorem runs_any (w : World) (b : Nat) (s : Sp) (h : SpaceAt w b s) (ht : Tab w) :
    Calls Tryd.prog 36 #[.pointer (some ⟨b, 0, none⟩)] w fun e w' => ∃ v, e = .returned v ∧ NewR w.heap.size w' v s.runs ∧ Below w.heap.size w w' := by
  have HF := firstUsed_any w b s h ht 0 (Nat.zero_le _)
  have H : Hid (SpaceAt w b s) := h
  have HT : Hid (Tab w) := ht
  have h1 := h.ok.high
  clear h ht
  go_enter Tryd.func36, Tryd.ntmps36
  go_wp2_with (go_at_call 47; refine HF.mono ?_; rintro e w' ⟨rfl, hw'⟩; obtain rfl := hw'.symm)
  go_loopw [3, 4] (fun u i wx => ∃ (m a : Nat) (L : List (Nat × Nat)), i = .int .i64 (a : Int) ∧ IsNx s.has true s.n m a ∧ L.length ≤ m ∧ (∀ R, IsRuns s.has s.n m R → IsRuns s.has s.n 0 (L ++ R)) ∧ NewR w.heap.size wx u L ∧ Below w.heap.size w wx) (fun _ i _ => 65536 - (intOf i).toNat)
  case atStart => exact ⟨0, s.next true 0, [], rfl, s.next_is true (Nat.zero_le _), Nat.le_refl _, fun R hR => hR, World.ownsRow_nil _ _ _ _, Below.refl _ _⟩
  case round =>
    obtain ⟨m, a, L, rfl, hnx, hLm, hR, hu, hbl⟩ := hrel
    have hs := H.out.below hbl
    have htb := HT.out.below hbl
    have c0 := hs.count
    have htop := hnx.top
    have HN : Hid _ := hnx
    have HR : Hid _ := hR
    have HU : Hid _ := hu
    have HB : Hid _ := hbl
    clear hR
    by_cases hlt : a < s.n
    · have hltz : (a : Int) < (s.n : Int) := by omega
      have he := s.next_is false (m := a) htop
      have hmore := he.more (hnx.hit hlt) hlt
      have hle := hnx.le
      have hetop := he.top
      have HFF := firstFree_any wr b s hs htb a htop
      have HE : Hid (IsNx s.has false s.n a (s.next false a)) := he
      generalize s.next false a = e at HFF HE hmore hetop
      obtain ⟨wa, hwa⟩ : ∃ wa, wa = wr.alloc (.cells #[.int .i64 (a : Int), .int .i64 ((e : Int) - (a : Int))] 64) := ⟨_, rfl⟩
      have hba : Below wr.heap.size wr wa := by rw [hwa]; exact (Below.refl _ _).alloc (Nat.le_refl _) _
      have hea : (e : Int) - (a : Int) = ((e - a : Nat) : Int) := by omega
      have hca0 : wa.cell? ⟨wr.heap.size, 0, none⟩ = some (.int .i64 (a : Int)) := by rw [hwa, row_cell (heap_alloc_last wr _)]; rfl
      have hca1 : wa.cell? ⟨wr.heap.size, 1, none⟩ = some (.int .i64 ((e - a : Nat) : Int)) := by rw [hwa, row_cell (heap_alloc_last wr _), ← hea]; rfl
      have hsz := hbl.size
      have hsz2 := hba.size
      have HUA : Hid (NewR w.heap.size wa _ L) := own_here hu hba
      have HBA : Hid (Below w.heap.size w wa) := hbl.trans (hba.mono (by omega))
      have HC0 : Hid _ := hca0
      have HC1 : Hid _ := hca1
      have hL2 : (L.length + 1) * 16 ≤ 140737488355328 := by omega
      clear hs htb hnx he hu hbl hba hca0 hca1 hea
      subst hwa
      go_wp2_with (first
        | (go_at_call 42; refine HFF.mono ?_; rintro e' w' ⟨rfl, hw'⟩; obtain rfl := hw'.symm)
        | (at_builtin
           refine wpList_append_run rfl _ _ rfl w.heap.size _ L (a, e - a) rfl HUA.out wr.heap.size rfl HC0.out HC1.out hL2 HBA.out.size ?_
           intro v2 w2 hv2 _ hb2
           have HV2 : Hid (NewR w.heap.size w2 v2 (L ++ [(a, e - a)])) := hv2
           have HB2 : Hid (Below w.heap.size w w2) := HBA.out.trans hb2.low
           clear hv2 hb2)
        | (go_at_call 47; refine (firstUsed_any _ b s (H.out.below HB2.out) (HT.out.below HB2.out) e hetop).mono ?_; rintro e' w' ⟨rfl, hw'⟩; obtain rfl := hw'.symm))
      have hx := s.next_is true (m := e) hetop
      have := hx.le
      have := hx.top
      exact ⟨⟨e, s.next true e, L ++ [(a, e - a)], rfl, hx, by simp; omega, fun R hR' => by rw [List.append_assoc]; exact HR.out _ (.cons HN.out hlt HE.out hR'), HV2.out, HB2.out⟩, by simp [intOf]; omega⟩
    · have hltz : ¬ (a : Int) < (s.n : Int) := by omega
      have HE : Hid (L = s.runs) := by
        have : a = s.n := by omega
        subst this
        have h2 := HR.out [] (.nil hnx)
        rw [List.append_nil] at h2
        exact h2.uniq s.runs_is
      clear hs htb hnx hu hbl
      go_wp2
      go_ret
      exact ⟨_, rfl, by rw [← HE.out]; exact HU.out, HB.out⟩
/-- The bytes of a space. -/
def encR : List (Nat × Nat) → List UInt8
  | [] => []
  | r :: L => be4 r.1 ++ be4 r.2 ++ encR L
def Sp.enc (s : Sp) : List UInt8 := be4 s.runs.length ++ encR s.runs
theorem encR_append (L M : List (Nat × Nat)) : encR (L ++ M) = encR L ++ encR M := by
  induction L with
  | nil => rfl
  | cons r L ih => simp [encR, ih]
theorem encR_length (L : List (Nat × Nat)) : (encR L).length = 8 * L.length := by
  induction L with
  | nil => rfl
  | cons r L ih => simp [encR, ih, be4_length]; omega
theorem own_row {w : World} {base e n k : Nat} {v : Value} {xs : List Value} (ho : w.ownsRow base e k v n xs) : (v = .slice none 0 0 ∧ n = 0) ∨ ∃ g c, v = .slice (some ⟨g, 0, none⟩) n c ∧ base ≤ g ∧ g < w.heap.size ∧ ∀ j u, xs[j]? = some u → w.cell? ⟨g, j, none⟩ = some u := by
  obtain ⟨h1, h2⟩ := ho
  rcases h2 with h2 | ⟨g, cap, cur, rfl, hb, hg, hc, _, hs, hx⟩
  · exact .inl h2
  · refine .inr ⟨g, cap, rfl, hb, (Array.getElem?_eq_some_iff.1 hg).1, fun j u hj => ?_⟩
    rw [row_cell hg, ← Array.getElem?_toList]
    rw [← hx, List.getElem?_take] at hj
    split at hj
    · exact hj
    · cases hj
theorem flatR_at {L : List (Nat × Nat)} {k : Nat} {r : Nat × Nat} (h : L[k]? = some r) : (flatR L)[k * 2]? = some (.int .i64 (r.1 : Int)) ∧ (flatR L)[k * 2 + 1]? = some (.int .i64 (r.2 : Int)) := by
  induction L generalizing k with
  | nil => simp at h
  | cons q L ih =>
    rcases k with _ | k
    · simp at h; subst h; simp [flatR]
    · have := ih (k := k) (by simpa using h)
      have e : flatR (q :: L) = .int .i64 (q.1 : Int) :: .int .i64 (q.2 : Int) :: flatR L := by simp [flatR]
      rw [e, show (k + 1) * 2 = k * 2 + 1 + 1 by omega]
      simpa using this
theorem own_slice {w : World} {base e n k : Nat} {v : Value} {xs : List Value} (ho : w.ownsRow base e k v n xs) : ∃ a c, v = .slice a n c := by
  rcases own_row ho with ⟨e, h0⟩ | ⟨g, c, e, _⟩
  · exact ⟨none, 0, by rw [e, h0]⟩
  · exact ⟨_, c, e⟩
set_option maxHeartbeats 1000000 in
theorem encode_any (w : World) (b : Nat) (s : Sp) (h : SpaceAt w b s) (ht : Tab w) :
    Calls Tryd.prog 26 #[.pointer (some ⟨b, 0, none⟩)] w fun e w' => ∃ v, e = .returned v ∧ NewB w.heap.size w' v s.enc ∧ Below w.heap.size w w' := by
  have HR := runs_any w b s h ht
  have hl := s.runs_length
  have h1 := h.ok.high
  obtain ⟨i0, hi0, hz0, hz1, hz2⟩ := infoB'
  have HS : Hid (s.enc = be4 s.runs.length ++ encR s.runs) := rfl
  generalize s.runs = L at HR hl HS
  have hL : L.length ≤ 65536 := by omega
  clear h ht hl h1
  go_enter Tryd.func26, Tryd.ntmps26
  go_wp2_with (first
    | (go_at_call 36; refine HR.mono ?_; rintro e w1 ⟨v1, rfl, hv1, hb1⟩
       have HV1 : Hid _ := hv1
       have HB1 : Hid _ := hb1
       obtain ⟨a1, c1, rfl⟩ := own_slice hv1
       clear hv1 hb1)
    | (at_make
       refine wpList_make_own _ rfl _ _ 37 rfl w1.heap.size 5 i0 (.int .u8 0) 1 Tryd.underlying37 hi0 hz0 hz1 .i64 .i64 (4 + 8 * (L.length : Int)) (4 + 8 * L.length) rfl rfl (by omega) (by rw [hz2]; omega) (by unfold maxLen; omega) (Nat.le_refl _) ?_
       intro w2 ho2 hg2
       have HV2 : Hid (NewB w1.heap.size w2 (.slice (some ⟨w1.heap.size, 0, none⟩) 0 (4 + 8 * L.length)) []) := ho2
       have HB2 : Hid (Below w1.heap.size w1 w2) := (Below.refl _ _).grown hg2 (Nat.le_refl _) (fun k e => by cases e)
       clear ho2 hg2)
    | (go_at_call 45; refine (putNumber_any w2 w1.heap.size _ [] L.length HV2.out (by simp) HB2.out.size).mono ?_; rintro e w3 ⟨v3, rfl, hv3, hb3⟩
       have HV3 : Hid (NewB w1.heap.size w3 v3 (be4 L.length)) := hv3
       have HB3 : Hid (Below w1.heap.size w1 w3) := HB2.out.trans hb3.low
       clear hv3 hb3))
  go_loopw [4, 20] (fun u i wx => ∃ k : Nat, k ≤ L.length ∧ i = .int .i64 k ∧ NewB w1.heap.size wx u (be4 L.length ++ encR (L.take k)) ∧ Below w1.heap.size w1 wx) (fun _ i _ => L.length - (intOf i).toNat)
  case atStart => exact ⟨0, by omega, rfl, by simp only [List.take_zero, encR, List.append_nil]; exact HV3.out, HB3.out⟩
  case round =>
    obtain ⟨k, hk, rfl, hu, hbl⟩ := hrel
    by_cases hlt : k < L.length
    · have hltz : (k : Int) < (L.length : Int) := by omega
      obtain ⟨r, hr⟩ : ∃ r, L[k]? = some r := ⟨L[k]'hlt, List.getElem?_eq_getElem hlt⟩
      have hfl := flatR_at hr
      obtain ⟨g, rfl, hg, hcell⟩ : ∃ g, a1 = some ⟨g, 0, none⟩ ∧ g < w1.heap.size ∧ ∀ j u, (flatR L)[j]? = some u → wr.cell? ⟨g, j, none⟩ = some u := by
        rcases own_row HV1.out with ⟨e, h0⟩ | ⟨g, c, e, _, hg, hc⟩
        · omega
        · injection e with e1 _ _
          exact ⟨g, e1, hg, fun j u hj => by rw [← hc j u hj]; exact hbl.cell hg⟩
      have hc0 := hcell _ _ hfl.1
      have hc1 := hcell _ _ hfl.2
      have HN : Hid (be4 L.length ++ encR (L.take (k + 1)) = (be4 L.length ++ encR (L.take k) ++ be4 r.1) ++ be4 r.2) := by
        show _ = _
        rw [List.take_add_one, hr, encR_append]
        simp [encR]
      have hl0 : (be4 L.length ++ encR (L.take k)).length ≤ 1000000 := by
        have := List.length_take_le k L
        rw [List.length_append, encR_length, be4_length]; omega
      obtain ⟨wa, hwa⟩ : ∃ wa, wa = wr.alloc (.cells #[.int .i64 (r.1 : Int), .int .i64 (r.2 : Int)] 64) := ⟨_, rfl⟩
      have hba : Below wr.heap.size wr wa := by rw [hwa]; exact (Below.refl _ _).alloc (Nat.le_refl _) _
      have hca : wa.heap[wr.heap.size]? = some (.cells #[.int .i64 (r.1 : Int), .int .i64 (r.2 : Int)] 64 (0, 0)) := by rw [hwa]; exact heap_alloc_last wr _
      have hsz := hbl.size
      have hsz2 := hba.size
      have HUA : Hid (NewB w1.heap.size wa _ (be4 L.length ++ encR (L.take k))) := own_here hu hba
      have HBA : Hid (Below w1.heap.size w1 wa) := hbl.trans (hba.mono (by omega))
      have HCA : Hid _ := hca
      clear hu hbl hba hca hcell hfl
      subst hwa
      go_wp2_with (first
        | (go_at_call 45; refine (putNumber_any w4 w1.heap.size _ _ r.2 HV4.out (by rw [List.length_append, be4_length]; omega) HB4.out.size).mono ?_; rintro e w5 ⟨v5, rfl, hv5, hk5⟩
           have HV5 : Hid (NewB w1.heap.size w5 v5 ((be4 L.length ++ encR (L.take k) ++ be4 r.1) ++ be4 r.2)) := hv5
           have HB5 : Hid (Below w1.heap.size w1 w5) := HB4.out.trans hk5.low
           clear hv5 hk5)
        | (go_at_call 45; refine (putNumber_any _ w1.heap.size _ _ r.1 HUA.out (by omega) HBA.out.size).mono ?_; rintro e w4 ⟨v4, rfl, hv4, hk4⟩
           have hc4 : w4.cell? ⟨wr.heap.size, 1, none⟩ = some (.int .i64 (r.2 : Int)) := by rw [row_cell (hk4.typ _ _ _ _ (by decide) HCA.out)]; rfl
           have HV4 : Hid (NewB w1.heap.size w4 v4 (be4 L.length ++ encR (L.take k) ++ be4 r.1)) := hv4
           have HB4 : Hid (Below w1.heap.size w1 w4) := HBA.out.trans hk4.low
           clear hv4 hk4))
      exact ⟨⟨k + 1, by omega, by go_num, by rw [HN.out]; exact HV5.out, HB5.out⟩, by simp [intOf]; omega⟩
    · have hltz : ¬ (k : Int) < (L.length : Int) := by omega
      have HE : Hid (L.take k = L) := List.take_of_length_le (by omega)
      rw [HE.out] at hu
      have HF : Hid _ := hu
      have HB : Hid _ := hbl
      have hsz := HB1.out.size
      clear hu hbl
      go_wp2
      go_ret
      exact ⟨_, rfl, by rw [HS.out]; exact own_mono HF.out hsz, HB1.out.trans (HB.out.mono hsz)⟩
end Go.Proofs.YtlokplnapaghhaaDoor
