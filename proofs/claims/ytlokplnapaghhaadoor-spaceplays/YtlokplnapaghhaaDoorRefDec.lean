/- The document's Decode. -/
import Derived.Test.YtlokplnapaghhaaDoorRefEnc2
namespace Go.Proofs.YtlokplnapaghhaaDoor
open Go.RowKit

theorem chunks_at : ∀ (K k : Nat) (r : List UInt8), k < K → (chunks K r)[k]? = some (told (r.drop (8 * k)), told (r.drop (8 * k + 4)))
  | 0, k, r, h => by omega
  | K + 1, 0, r, _ => by simp [chunks]
  | K + 1, k + 1, r, h => by
    simp only [chunks, List.getElem?_cons_succ]
    rw [chunks_at K k (r.drop 8) (by omega), List.drop_drop, List.drop_drop, show 8 + 8 * k = 8 * (k + 1) by omega, show 8 + (8 * k + 4) = 8 * (k + 1) + 4 by omega]
theorem told_take (r : List UInt8) : told (r.take 4) = told r := by unfold told; rw [List.take_take]; rfl
theorem slice_lh (w : World) (g off len cap p q : Nat) (h1 : p < q) (h2 : q ≤ cap) :
    (Instr.slice 37 (.slice (some ⟨g, off, none⟩) len cap) (some (.int .i64 (p : Int))) (some (.int .i64 (q : Int))) none).run Tryd.prog w = .ok (.slice (some ⟨g, off + p, none⟩) (q - p) (cap - p)) w := by
  rw [run_slice_lh w 37 _ len cap (by rw [elem_bytes]; exact Tryd.underlying37) .i64 .i64 (p : Int) (q : Int) (by omega) (by omega) (by omega), elem_bytes, Tryd.sizeOf5]
  simp only [Result.andThen, sliced, Int.toNat_natCast, Nat.mul_one]
  rw [if_neg (by omega)]
  simp [add_at]
theorem bytes_take {B : Nat} {w : World} {a : Option Addr} {bs : List UInt8} (h : BytesAt B w a bs) (n : Nat) : BytesAt B w a (bs.take n) := fun j c hj => by
  rw [List.getElem?_take] at hj
  split at hj
  · exact h j c hj
  · cases hj
theorem rdecode_arg (w : World) (blocks : Int) (v : Value) (h : ¬ (16 ≤ blocks ∧ blocks ≤ 65536)) :
    Calls Tryd.prog 21 #[.int .i64 blocks, v] w fun e w' => e = .returned (.tuple #[.pointer none, .int .i64 1]) ∧ w' = w := by
  have h1 : newOk blocks 0 = false := by
    cases h1 : newOk blocks 0 with
    | false => rfl
    | true => simp only [newOk, Bool.and_eq_true, decide_eq_true_eq] at h1; omega
  have HN := rnew_bad w blocks 0 h1
  clear h h1
  go_enter Tryd.func21, Tryd.ntmps21
  go_wp2_with (go_at_call 10; refine HN.mono ?_; rintro e w' ⟨rfl, rfl⟩)
  go_ret2
  exact ⟨rfl, rfl⟩
/-- What the document's Decode tells. -/
inductive RDecPost (w : World) (n : Nat) (bs : List UInt8) (e : Ending) (w' : World) : Prop
  | no : e = .returned (.tuple #[.pointer none, .int .i64 93]) → ¬ Dec n bs → Below w.heap.size w w' → RDecPost w n bs e w'
  | yes (b : Nat) (s : Sp) : e = .returned (.tuple #[.pointer (some ⟨b, 0, none⟩), .int .i64 0]) → Dec n bs → NewRef w w' b s → s.n = n → (∀ k, k < n → s.has k = inRuns (runsOf bs) k) → Below w.heap.size w w' → RDecPost w n bs e w'
/-- What is read, where the bytes may be. -/
def Reads (n : Nat) (bs : List UInt8) (k : Nat) (t : Sp) : Prop := Dec n bs → ∃ m, Ahead n ((runsOf bs).take k) m ∧ ∀ j, j < n → t.has j = inRuns ((runsOf bs).take k) j
theorem Reads.fits {n : Nat} {bs : List UInt8} {k : Nat} {t : Sp} (h : Reads n bs k t) {f q : Nat} (hr : (runsOf bs)[k]? = some (f, q)) (hd : Dec n bs) : 1 ≤ q ∧ f + q ≤ n ∧ ∀ j, f ≤ j → j < n → t.has j = false := by
  obtain ⟨m, ha, hh⟩ := h hd
  have hs : runsOf bs = (runsOf bs).take k ++ (f, q) :: (runsOf bs).drop (k + 1) := by
    have hl := (List.getElem?_eq_some_iff.1 hr).1
    have h2 : (runsOf bs).drop k = (f, q) :: (runsOf bs).drop (k + 1) := by
      rw [List.drop_eq_getElem_cons hl]
      rw [List.getElem?_eq_getElem hl] at hr
      rw [Option.some.inj hr]
    rw [← h2, List.take_append_drop]
  have hr2 := hd.runs
  rw [hs, ha.iff] at hr2
  cases hr2 with
  | cons h1 h2 h3 _ => exact ⟨h2, h3, fun j h4 h5 => by rw [hh j h5]; exact ha.off j (by omega)⟩
theorem Reads.next {n : Nat} {bs : List UInt8} {k : Nat} {t : Sp} (h : Reads n bs k t) {f q : Nat} (hr : (runsOf bs)[k]? = some (f, q)) : Reads n bs (k + 1) (t.use f q) := fun hd => by
  obtain ⟨h1, h2, h3⟩ := h.fits hr hd
  obtain ⟨m, ha, hh⟩ := h hd
  have hs : runsOf bs = (runsOf bs).take k ++ (f, q) :: (runsOf bs).drop (k + 1) := by
    have hl := (List.getElem?_eq_some_iff.1 hr).1
    have h2 : (runsOf bs).drop k = (f, q) :: (runsOf bs).drop (k + 1) := by
      rw [List.drop_eq_getElem_cons hl]
      rw [List.getElem?_eq_getElem hl] at hr
      rw [Option.some.inj hr]
    rw [← h2, List.take_append_drop]
  have hm : m ≤ f := by
    have hr2 := hd.runs
    rw [hs, ha.iff] at hr2
    cases hr2 with
    | cons h1 _ _ _ => exact h1
  have e : (runsOf bs).take (k + 1) = (runsOf bs).take k ++ [(f, q)] := by rw [List.take_add_one, hr]; rfl
  rw [e]
  refine ⟨f + q + 1, ha.snoc hm h1 h2, fun j hj => ?_⟩
  rw [Sp.has_use, inRuns_append, ← hh j hj]
  by_cases hin : f ≤ j ∧ j < f + q
  · rw [if_pos hin, h3 j hin.1 hj]
    simp [inRuns]; omega
  · rw [if_neg hin]
    have : inRuns [(f, q)] j = false := by simp [inRuns]; omega
    rw [this, Bool.or_false]
set_option maxHeartbeats 4000000 in
set_option maxRecDepth 100000 in
theorem rdecode_any (w : World) (n : Nat) (h16 : 16 ≤ n) (h65 : n ≤ 65536) (a : Option Addr) (cap : Nat) (bs : List UInt8) (h : BytesAt w.heap.size w a bs) (hc : bs.length ≤ cap) (hs : bs.length ≤ 140737488355328) :
    Calls Tryd.prog 21 #[.int .i64 n, .slice a bs.length cap] w fun e w' => RDecPost w n bs e w' := by
  have HN := rnew_ok w n 0 h16 h65 (Nat.zero_le _)
  have n0 : ((0 : Nat) : Int) = 0 := rfl
  rw [n0] at HN
  clear n0
  by_cases h4 : bs.length < 4
  · have h4z : (bs.length : Int) < 4 := by omega
    go_enter Tryd.func21, Tryd.ntmps21
    go_wp2_with (go_at_call 10; refine HN.mono ?_; rintro e w1 ⟨b, rfl, hb1, hbl⟩)
    go_ret2
    exact .no rfl (fun hd => by have := hd.head; omega) hbl
  · have h4z : ¬ (bs.length : Int) < 4 := by omega
    by_cases h8 : bs.length % 8 = 4
    · have h8b : (((bs.length : Int) % 8) != 4) = false := by
        have : (bs.length : Int) % 8 = 4 := by omega
        rw [this]; rfl
      obtain ⟨c0, hc0⟩ : ∃ c, bs[0]? = some c := ⟨bs[0]'(by omega), List.getElem?_eq_getElem (by omega)⟩
      obtain ⟨gb, off, rfl, hg, _⟩ := h 0 c0 hc0
      obtain ⟨K, hK⟩ : ∃ K, K = (bs.length - 4) / 8 := ⟨_, rfl⟩
      have hKl : bs.length = 4 + 8 * K := by omega
      have HKL : Hid (bs.length = 4 + 8 * K) := hKl
      have HAT : Hid (∀ k, k < K → (runsOf bs)[k]? = some (told (bs.drop (4 + 8 * k)), told (bs.drop (4 + 8 * k + 4)))) := fun k hk => by
        unfold runsOf
        rw [← hK, chunks_at K k _ hk, List.drop_drop, List.drop_drop, Nat.add_assoc]
      have HBY : Hid (BytesAt w.heap.size w (some ⟨gb, off, none⟩) bs) := h
      have hRL : Hid ((runsOf bs).length = K) := by rw [Hid, runsOf, chunks_length, hK]
      clear h hc0 hg hK hKl
      go_enter Tryd.func21, Tryd.ntmps21
      go_wp2_with (go_at_call 10; refine HN.mono ?_; rintro e w1 ⟨b, rfl, hb1, hbl1⟩
                   obtain ⟨⟨g, c, hr1, hgw⟩, hbw⟩ := hb1
                   have HR1 : Hid (RefAt w1 b g c (Sp.empty n)) := hr1
                   have HB1 : Hid (Below w.heap.size w w1) := hbl1
                   clear hr1 hbl1)
      go_loopw [8] (fun i wx => ∃ (k : Nat) (t : Sp), k ≤ K ∧ i = .int .i64 ((4 + 8 * k : Nat) : Int) ∧ t.n = n ∧ RefAt wx b g c t ∧ Reads n bs k t ∧ Below w.heap.size w wx) (fun i _ => bs.length + 8 - (intOf i).toNat)
      case atStart => exact ⟨0, Sp.empty n, by omega, rfl, rfl, HR1.out, fun _ => ⟨0, by simpa using Ahead.nil n, fun j _ => by simp [Sp.has_empty, inRuns]⟩, HB1.out⟩
      case round =>
        obtain ⟨k, t, hk, rfl, htn, hr, hrd, hbl⟩ := hrel
        obtain ⟨p, hp⟩ : ∃ p, p = 4 + 8 * k := ⟨_, rfl⟩
        rw [← hp]
        by_cases hlt : k < K
        · have hKl := HKL.out
          have hltz : (p : Int) < (bs.length : Int) := by omega
          have hpb : p + 8 ≤ bs.length := by omega
          obtain ⟨f, hf⟩ : ∃ f, f = told (bs.drop p) := ⟨_, rfl⟩
          obtain ⟨q, hq⟩ : ∃ q, q = told (bs.drop (p + 4)) := ⟨_, rfl⟩
          have hfl : f < 4294967296 := by rw [hf]; exact told_lt _
          have hql : q < 4294967296 := by rw [hq]; exact told_lt _
          have HAK : Hid ((runsOf bs)[k]? = some (f, q)) := by rw [Hid, HAT.out k hlt, hf, hq, hp]
          have hs1 : ∀ wx, (Instr.slice 37 (.slice (some ⟨gb, off, none⟩) bs.length cap) (some (.int .i64 (p : Int))) (some (.int .i64 ((p : Int) + 4))) none).run Tryd.prog wx = .ok (.slice (some ⟨gb, off + p, none⟩) 4 (cap - p)) wx := fun wx => by
            have := slice_lh wx gb off bs.length cap p (p + 4) (by omega) (by omega)
            rw [show p + 4 - p = 4 by omega, Int.natCast_add] at this
            exact this
          have hs2 : ∀ wx, (Instr.slice 37 (.slice (some ⟨gb, off, none⟩) bs.length cap) (some (.int .i64 ((p : Int) + 4))) (some (.int .i64 ((p : Int) + 8))) none).run Tryd.prog wx = .ok (.slice (some ⟨gb, off + (p + 4), none⟩) 4 (cap - (p + 4))) wx := fun wx => by
            have := slice_lh wx gb off bs.length cap (p + 4) (p + 8) (by omega) (by omega)
            rw [show p + 8 - (p + 4) = 4 by omega, Int.natCast_add, Int.natCast_add] at this
            exact this
          have HT1 : Hid (∀ W, Below w.heap.size w W → Calls Tryd.prog 41 #[.slice (some ⟨gb, off + p, none⟩) 4 (cap - p)] W fun e w' => e = .returned (.int .i64 (f : Int)) ∧ ∃ q, w' = W.drewN q) := fun W hW => by
            rw [hf, ← told_take]
            exact told_any W _ _ _ (bytes_take (bytes_drop (HBY.out.below hW) p) 4) (by simp; omega)
          have HT2 : Hid (∀ W, Below w.heap.size w W → Calls Tryd.prog 41 #[.slice (some ⟨gb, off + (p + 4), none⟩) 4 (cap - (p + 4))] W fun e w' => e = .returned (.int .i64 (q : Int)) ∧ ∃ q, w' = W.drewN q) := fun W hW => by
            rw [hq, ← told_take]
            exact told_any W _ _ _ (bytes_take (bytes_drop (HBY.out.below hW) (p + 4)) 4) (by simp; omega)
          have HRD : Hid (Reads n bs k t) := hrd
          have HR : Hid (RefAt wr b g c t) := hr
          have HB : Hid (Below w.heap.size w wr) := hbl
          have HTN : Hid (t.n = n) := htn
          have HPE : Hid (p = 4 + 8 * k) := hp
          clear hf hq hrd hr hbl htn hp hKl
          by_cases hb1 : n < f
          · have hb1z : (n : Int) < (f : Int) := by omega
            go_wp2_with (first
              | (go_at_call 41; refine (HT2.out w2 HB2.out).mono ?_; rintro e w3 ⟨rfl, q3, hw3⟩
                 have HB3 : Hid (Below w.heap.size w w3) := by rw [hw3]; exact HB2.out.trans ⟨rfl, rfl, rfl, Nat.le_refl _, fun _ _ => rfl⟩
                 have HR3 : Hid (RefAt w3 b g c t) := by rw [hw3]; exact ⟨HR2.out.box, HR2.out.row, HR2.out.le, HR2.out.ok⟩
                 clear hw3)
              | (go_at_call 41; refine (HT1.out wr HB.out).mono ?_; rintro e w2 ⟨rfl, q2, hw2⟩
                 have HB2 : Hid (Below w.heap.size w w2) := by rw [hw2]; exact HB.out.trans ⟨rfl, rfl, rfl, Nat.le_refl _, fun _ _ => rfl⟩
                 have HR2 : Hid (RefAt w2 b g c t) := by rw [hw2]; exact ⟨HR.out.box, HR.out.row, HR.out.le, HR.out.ok⟩
                 clear hw2))
            go_ret2
            exact .no rfl (fun hd => by have := (HRD.out.fits HAK.out hd).2.1; omega) HB3.out
          · have hb1z : ¬ (n : Int) < (f : Int) := by omega
            by_cases hb2 : n < f + q
            · have hb2z : (n : Int) - (f : Int) < (q : Int) := by omega
              go_wp2_with (first
                | (go_at_call 41; refine (HT2.out w2 HB2.out).mono ?_; rintro e w3 ⟨rfl, q3, hw3⟩
                   have HB3 : Hid (Below w.heap.size w w3) := by rw [hw3]; exact HB2.out.trans ⟨rfl, rfl, rfl, Nat.le_refl _, fun _ _ => rfl⟩
                   have HR3 : Hid (RefAt w3 b g c t) := by rw [hw3]; exact ⟨HR2.out.box, HR2.out.row, HR2.out.le, HR2.out.ok⟩
                   clear hw3)
                | (go_at_call 41; refine (HT1.out wr HB.out).mono ?_; rintro e w2 ⟨rfl, q2, hw2⟩
                   have HB2 : Hid (Below w.heap.size w w2) := by rw [hw2]; exact HB.out.trans ⟨rfl, rfl, rfl, Nat.le_refl _, fun _ _ => rfl⟩
                   have HR2 : Hid (RefAt w2 b g c t) := by rw [hw2]; exact ⟨HR.out.box, HR.out.row, HR.out.le, HR.out.ok⟩
                   clear hw2))
              go_ret2
              exact .no rfl (fun hd => by have := (HRD.out.fits HAK.out hd).2.1; omega) HB3.out
            · have hb2z : ¬ (n : Int) - (f : Int) < (q : Int) := by omega
              go_wp2_with (first
                | (go_at_call 41; refine (HT2.out w2 HB2.out).mono ?_; rintro e w3 ⟨rfl, q3, hw3⟩
                   have HB3 : Hid (Below w.heap.size w w3) := by rw [hw3]; exact HB2.out.trans ⟨rfl, rfl, rfl, Nat.le_refl _, fun _ _ => rfl⟩
                   have HR3 : Hid (RefAt w3 b g c t) := by rw [hw3]; exact ⟨HR2.out.box, HR2.out.row, HR2.out.le, HR2.out.ok⟩
                   clear hw3)
                | (go_at_call 41; refine (HT1.out wr HB.out).mono ?_; rintro e w2 ⟨rfl, q2, hw2⟩
                   have HB2 : Hid (Below w.heap.size w w2) := by rw [hw2]; exact HB.out.trans ⟨rfl, rfl, rfl, Nat.le_refl _, fun _ _ => rfl⟩
                   have HR2 : Hid (RefAt w2 b g c t) := by rw [hw2]; exact ⟨HR.out.box, HR.out.row, HR.out.le, HR.out.ok⟩
                   clear hw2))
              go_loopw [11] (fun i wx => ∃ d : Nat, d ≤ q ∧ i = .int .i64 ((f : Int) + (d : Int)) ∧ RefAt wx b g c (t.use f d) ∧ Below w.heap.size w wx) (fun i _ => (f + q - (intOf i).toNat))
              case atStart => exact ⟨0, by omega, by go_num, HR3.out, HB3.out⟩
              case round =>
                clear HT1 HT2 hs1 hs2 HR HR2 HR3 HB HB2 HB3
                obtain ⟨d, hd, rfl, hr, hbl⟩ := hrel
                by_cases hdq : d < q
                · have hdz : (f : Int) + (d : Int) < (f : Int) + (q : Int) := by omega
                  obtain ⟨z, hz⟩ : ∃ z, z = f + d := ⟨_, rfl⟩
                  have hzz : (f : Int) + (d : Int) = (z : Int) := by omega
                  have HTK := rtake_any wr b g c (t.use f d) hr z
                  have hzn : z < (t.use f d).n := by rw [Sp.use_n, HTN.out]; omega
                  have hin : inB z (t.use f d).n = true := inB_nat hzn
                  have hth : (t.use f d).has z = t.has z := by rw [Sp.has_use, if_neg (by omega)]
                  have HB : Hid (Below w.heap.size w wr) := hbl
                  have hzb : z < 65536 := by rw [Sp.use_n, HTN.out] at hzn; omega
                  have hdz2 : (z : Int) < (f : Int) + (q : Int) := by omega
                  rw [hzz]
                  cases hh : t.has z with
                  | true =>
                    have hE : (t.use f d).takeE z = 94 := by simp [Sp.takeE, hin, hth, hh]
                    rw [hE] at HTK
                    have HND : Hid (¬ Dec n bs) := fun hd' => by
                      have := (HRD.out.fits HAK.out hd').2.2 z (by omega) (by rw [Sp.use_n, HTN.out] at hzn; exact hzn)
                      rw [hh] at this
                      cases this
                    clear hr hbl hE hth hin hzn hh hzz hz hdz
                    go_wp2_with (go_at_call 30; refine HTK.mono ?_; rintro e w4 ⟨rfl, hs4, hk4⟩
                                 have HB4 : Hid (Below w.heap.size w w4) := Kept.below HB.out hk4 HB.out.size (fun i hi => by omega)
                                 clear hs4 hk4)
                    go_ret2
                    exact .no rfl HND.out HB4.out
                  | false =>
                    have hE : (t.use f d).takeE z = 0 := by simp [Sp.takeE, hin, hth, hh]
                    have hS : (t.use f d).takeS z = t.use f (d + 1) := by
                      simp only [Sp.takeS, hin, Int.toNat_natCast, hth, hh, if_true, Bool.false_eq_true, if_false]
                      rw [hz]; rfl
                    rw [hE, hS] at HTK
                    have HZE : Hid (z = f + d) := hz
                    clear hr hbl hE hS hth hin hzn hh hzz hz hdz
                    go_wp2_with (go_at_call 30; refine HTK.mono ?_; rintro e w4 ⟨rfl, hs4, hk4⟩
                                 have HB4 : Hid (Below w.heap.size w w4) := Kept.below HB.out hk4 HB.out.size (fun i hi => by omega)
                                 have HS4 : Hid (RefAt w4 b g c (t.use f (d + 1))) := hs4
                                 clear hs4 hk4)
                    have hz := HZE.out
                    exact ⟨⟨d + 1, by omega, by rw [hz]; go_num, HS4.out, HB4.out⟩, by simp [intOf]; omega⟩
                · have hdz : ¬ (f : Int) + (d : Int) < (f : Int) + (q : Int) := by omega
                  have HDE : Hid (d = q) := by show _ = _; omega
                  have HR : Hid _ := hr
                  have HB : Hid (Below w.heap.size w wr) := hbl
                  clear hr hbl
                  go_wp2
                  have hp := HPE.out
                  exact ⟨⟨k + 1, t.use f q, by omega, by rw [hp]; go_num, by rw [Sp.use_n]; exact HTN.out, by rw [← HDE.out]; exact HR.out, HRD.out.next HAK.out, HB.out⟩, by simp [intOf]; omega⟩
        · have hKl := HKL.out
          have hltz : ¬ (p : Int) < (bs.length : Int) := by omega
          have hkK : k = K := by omega
          have htk : (runsOf bs).take k = runsOf bs := List.take_of_length_le (by rw [hRL.out]; omega)
          have HCV : Hid (∀ W, Below w.heap.size w W → (convert 37 9 (.slice (some ⟨gb, off, none⟩) bs.length cap)).run Tryd.prog W = .ok (.string (strB bs)) W) := fun W hW => conv_any bs.length cap (HBY.out.below hW) rfl
          have HRE := rencode_any wr.drew b g c t ⟨hr.box, hr.row, hr.le, hr.ok⟩
          have HB : Hid (Below w.heap.size w wr) := hbl
          have hcv1 := HCV.out wr.drew hbl.drew
          have HR : Hid (RefAt wr b g c t) := hr
          have HTN : Hid (t.n = n) := htn
          have HRD : Hid (Dec n bs → ∀ j, j < n → t.has j = inRuns (runsOf bs) j) := fun hd => by
            obtain ⟨m, _, hh⟩ := hrd hd
            rw [htk] at hh
            exact hh
          have HGO : Hid (Dec n bs ↔ t.enc = bs) := by
            constructor
            · intro hd
              have hrn := hd.runs
              rw [← htn] at hrn
              have e : t.runs = runsOf bs := t.runs_of hrn (fun j hj => HRD.out hd j (by omega))
              rw [Sp.enc_is, e, ← hd.is]
            · intro he
              have hrr := t.runs_runs
              have hrl := t.runs_length
              rw [htn] at hrr hrl
              have := (dec_enc hrr h65 (by omega)).1
              rw [← Sp.enc_is, he] at this
              exact this
          clear hr hrd hbl htn hp hkK htk hKl
          go_upto_region 19 with fail
          by_cases he : t.enc = bs
          · rw [he] at HRE
            have hne : ((strB bs).toList != (strB bs).toList) = false := by simp
            have HDD : Hid (Dec n bs) := HGO.out.2 he
            clear he
            go_cut [77] (fun s77 wx => s77 = .bool false ∧ RefAt wx b g c t ∧ Below w.heap.size w wx)
            case first =>
              go_region_with (go_at_call 15; refine HRE.mono ?_; rintro e w5 ⟨v5, rfl, hv5, hb5⟩
                              have hcv5 := conv_new hv5
                              have HB5 : Hid (Below w.heap.size w w5) := HB.out.drew.trans (hb5.mono HB.out.drew.size)
                              have hcv6 := HCV.out w5 HB5.out
                              have HR5 : Hid (RefAt w5 b g c t) := HR.out.kept (Kept.of_below (S := fun _ => False) ((Below.refl _ _).drew.trans hb5)) id id
                              clear hv5 hb5)
              all_goals
                go_wp2_with fail
                go_meet
                exact ⟨rfl, HR5.out, HB5.out⟩
            case rest =>
              obtain ⟨rfl, hr6, hb6⟩ := hcut
              have HR6 : Hid _ := hr6
              have HB6 : Hid _ := hb6
              clear hr6 hb6
              go_wp2
              go_ret2
              exact .yes b t rfl HDD.out ⟨⟨g, c, HR6.out, hgw⟩, hbw⟩ HTN.out (HRD.out HDD.out) HB6.out
          · have hne : ((strB t.enc).toList != (strB bs).toList) = true := by
              have := strB_eq t.enc bs
              rw [decide_eq_false he] at this
              simp [bne, this]
            have HQ2 : Hid (((strB t.enc).toList == (strB bs).toList) = false) := by rw [Hid, strB_eq]; exact decide_eq_false he
            have HDD : Hid (¬ Dec n bs) := fun hd => he (HGO.out.1 hd)
            clear he
            go_cut [77] (fun s77 wx => s77 = .bool true ∧ Below w.heap.size w wx)
            case first =>
              go_region_with (go_at_call 15; refine HRE.mono ?_; rintro e w5 ⟨v5, rfl, hv5, hb5⟩
                              have hcv5 := conv_new hv5
                              have HB5 : Hid (Below w.heap.size w w5) := HB.out.drew.trans (hb5.mono HB.out.drew.size)
                              have hcv6 := HCV.out w5 HB5.out
                              clear hv5 hb5)
              all_goals
                go_wp2_with fail
                go_meet
                exact ⟨by first | rfl | (rw [HQ2.out]; rfl), HB5.out⟩
            case rest =>
              obtain ⟨rfl, hb6⟩ := hcut
              have HB6 : Hid _ := hb6
              clear hb6
              go_wp2
              go_ret2
              exact .no rfl HDD.out HB6.out
    · have h8b : (((bs.length : Int) % 8) != 4) = true := by rw [bne_iff_ne]; omega
      go_enter Tryd.func21, Tryd.ntmps21
      go_wp2_with (go_at_call 10; refine HN.mono ?_; rintro e w1 ⟨b, rfl, hb1, hbl⟩)
      go_ret2
      exact .no rfl (fun hd => by have := hd.even; have := hd.head; omega) hbl
end Go.Proofs.YtlokplnapaghhaaDoor
