/- Decode. -/
import Derived.Test.YtlokplnapaghhaaDoorDecP
import Derived.Deep.RegionWith
import Derived.Deep.DeepCutAuto
import Derived.Deep.RegionHeldLaw
namespace Go.Proofs.YtlokplnapaghhaaDoor
open Go.RowKit

theorem decode_arg (w : World) (blocks : Int) (v : Value) (h : ¬ (16 ≤ blocks ∧ blocks ≤ 65536)) :
    Calls Tryd.prog 20 #[.int .i64 blocks, v] w fun e w' => e = .returned (.tuple #[.pointer none, .int .i64 1]) ∧ w' = w := by
  have HM := mayBe_any w blocks
  have hm : (decide (16 ≤ blocks) && decide (blocks ≤ 65536)) = false := by
    simp only [Bool.and_eq_false_iff, decide_eq_false_iff_not]; omega
  rw [hm] at HM
  clear h hm
  go_enter Tryd.func20, Tryd.ntmps20
  go_wp2_with (go_at_call 27; refine HM.mono ?_; rintro e w' ⟨rfl, rfl⟩)
  go_ret2
  exact ⟨rfl, rfl⟩
def lenOf : Value → Nat
  | .slice _ n _ => n
  | _ => 0
/-- What Decode tells. -/
inductive DecPost (w : World) (n : Nat) (bs : List UInt8) (e : Ending) (w' : World) : Prop
  | no : e = .returned (.tuple #[.pointer none, .int .i64 93]) → ¬ Dec n bs → Below w.heap.size w w' → DecPost w n bs e w'
  | yes (g : Nat) (s : Sp) : e = .returned (.tuple #[.pointer (some ⟨g, 0, none⟩), .int .i64 0]) → Dec n bs → w.heap.size ≤ g → SpaceAt w' g s → s.n = n → (∀ k, k < n → s.has k = inRuns (runsOf bs) k) → Below w.heap.size w w' → DecPost w n bs e w'
theorem bytes_drop {B : Nat} {w : World} {g off : Nat} {bs : List UInt8} (h : BytesAt B w (some ⟨g, off, none⟩) bs) (k : Nat) : BytesAt B w (some ⟨g, off + k, none⟩) (bs.drop k) := fun j c hj => by
  rw [List.getElem?_drop] at hj
  obtain ⟨g', off', e, hg, hc⟩ := h (k + j) c hj
  cases e
  exact ⟨g, off + k, rfl, hg, by rw [Nat.add_assoc]; exact hc⟩
theorem elem_bytes : Tryd.prog.elem 37 = 5 := by kernel_rfl
theorem slice_run (w : World) (g off len cap k : Nat) (h1 : k ≤ len) :
    (Instr.slice 37 (.slice (some ⟨g, off, none⟩) len cap) (some (.int .i64 (k : Int))) none none).run Tryd.prog w = .ok (.slice (some (if cap = k then ⟨g, off, none⟩ else ⟨g, off + k, none⟩)) (len - k) (cap - k)) w := by
  rw [run_slice_l w 37 _ len cap (by rw [elem_bytes]; exact Tryd.underlying37) .i64 (k : Int) (by omega) (by omega), elem_bytes, Tryd.sizeOf5]
  simp only [Result.andThen, sliced, Int.toNat_natCast, Nat.mul_one]
  by_cases hc : cap = k
  · simp [hc]
  · simp [hc, add_at]
theorem slice_from (g off len cap k : Nat) (h1 : k ≤ len) (h2 : len ≤ cap) :
    ∃ o, (∀ B w' bs, bs.length = len → BytesAt B w' (some ⟨g, off, none⟩) bs → BytesAt B w' (some ⟨g, o, none⟩) (bs.drop k)) ∧
      ∀ wx, (Instr.slice 37 (.slice (some ⟨g, off, none⟩) len cap) (some (.int .i64 (k : Int))) none none).run Tryd.prog wx = .ok (.slice (some ⟨g, o, none⟩) (len - k) (cap - k)) wx := by
  by_cases hc : cap = k
  · refine ⟨off, fun B w' bs hl _ j c hj => ?_, fun wx => ?_⟩
    · have := (List.getElem?_eq_some_iff.1 hj).1
      simp at this
      omega
    · rw [slice_run wx g off len cap k h1, if_pos hc]
  · refine ⟨off + k, fun B w' bs _ hb => bytes_drop hb k, fun wx => ?_⟩
    rw [slice_run wx g off len cap k h1, if_neg hc]
set_option maxHeartbeats 4000000 in
set_option maxRecDepth 100000 in
theorem decode_any (w : World) (n : Nat) (h16 : 16 ≤ n) (h65 : n ≤ 65536) (a : Option Addr) (cap : Nat) (bs : List UInt8) (h : BytesAt w.heap.size w a bs) (hc : bs.length ≤ cap) (hs : bs.length ≤ 140737488355328) :
    Calls Tryd.prog 20 #[.int .i64 n, .slice a bs.length cap] w fun e w' => DecPost w n bs e w' := by
  have HM := mayBe_any w n
  have hm : (decide (16 ≤ (n : Int)) && decide ((n : Int) ≤ 65536)) = true := by
    simp only [Bool.and_eq_true, decide_eq_true_eq]; omega
  rw [hm] at HM
  clear hm
  by_cases h4 : bs.length < 4
  · have h4z : (bs.length : Int) < 4 := by omega
    go_enter Tryd.func20, Tryd.ntmps20
    go_wp2_with (go_at_call 27; refine HM.mono ?_; rintro e w' ⟨rfl, rfl⟩)
    go_ret2
    exact .no rfl (fun hd => by have := hd.head; omega) (Below.refl _ _)
  · have h4z : ¬ (bs.length : Int) < 4 := by omega
    have HNum := number_any w a cap bs h (by omega) hc
    obtain ⟨c0, hc0⟩ : ∃ c, bs[0]? = some c := ⟨bs[0]'(by omega), List.getElem?_eq_getElem (by omega)⟩
    obtain ⟨g, off, rfl, hg, _⟩ := h 0 c0 hc0
    have hc4 : (4 : Int) ≤ (cap : Int) := by omega
    have hl4 : (4 : Int) ≤ (bs.length : Int) := by omega
    obtain ⟨R, hR⟩ : ∃ R, R = bs.drop 4 := ⟨_, rfl⟩
    have hRl : R.length = bs.length - 4 := by rw [hR]; simp
    have eR : (bs.length : Int) - 4 = (R.length : Int) := by omega
    have eR2 : bs.length - 4 = R.length := by omega
    obtain ⟨o4, ho4, hsl⟩ := slice_from g off bs.length cap 4 (by omega) hc
    have hRb : BytesAt w.heap.size w (some ⟨g, o4, none⟩) R := by rw [hR]; exact ho4 _ _ bs rfl h
    have n4 : ((4 : Nat) : Int) = 4 := rfl
    rw [n4] at hsl
    have HR : Hid (R = bs.drop 4) := hR
    have HRB : Hid (BytesAt w.heap.size w (some ⟨g, o4, none⟩) R) := hRb
    have HRL : Hid (R.length = bs.length - 4) := hRl
    clear n4 ho4 hR hRl hRb
    clear h hc0 hg
    by_cases h8 : R.length % 8 = 0
    · have h8z : (R.length : Int) % 8 = 0 := by omega
      have h8b : (((R.length : Int) % 8) != 0) = false := by rw [h8z]; rfl
      obtain ⟨C, hC⟩ : ∃ C, C = R.length / 8 := ⟨_, rfl⟩
      have hCz : (R.length : Int) / 8 = (C : Int) := by omega
      have HCC : Hid (R.length = 8 * C) := by show _ = _; omega
      clear hC h8z
      by_cases hct : C = told bs
      · have hcb : (((C : Int)) != (told bs : Int)) = false := by rw [hct]; simp
        have HCT : Hid (C = told bs) := hct
        clear hct
        have HRO : Hid (runsOf bs = chunks C R) := by
          show _ = _
          unfold runsOf
          rw [← HR.out, ← HRL.out, HCC.out, Nat.mul_div_cancel_left _ (by decide)]
        have hbt := built_space n
        obtain ⟨w0, hw0⟩ : ∃ w0, w0 = w.alloc (.cells (cellsS (Sp.empty n)) 61) := ⟨_, rfl⟩
        have HS0 : Hid (SpaceAt w0 w.heap.size (Sp.empty n)) := ⟨by rw [hw0]; exact heap_alloc_last _ _, Sp.Ok.empty h16 h65⟩
        have HB0 : Hid (Below w.heap.size w w0) := by rw [hw0]; exact (Below.refl _ _).alloc (Nat.le_refl _) _
        generalize cellsS (Sp.empty n) = cs at hw0 hbt
        have HBT : Hid _ := hbt
        clear hbt h8
        go_enter Tryd.func20, Tryd.ntmps20
        go_wp2_with (first
          | (go_at_call 27; refine HM.mono ?_; rintro e w' ⟨rfl, hw'⟩; obtain rfl := hw'.symm)
          | (go_at_call 40; refine HNum.mono ?_; rintro e w' ⟨rfl, hw'⟩; obtain rfl := hw'.symm)
          | (refine wpList_built rfl 61 _ rfl (.int .i64 (n : Int)) rfl cs HBT.out ?_))
        rw [← hw0]
        clear hw0 HNum HM hsl eR eR2 HBT
        go_loopw [6, 8] (fun r m wx => ∃ (L : List (Nat × Nat)) (T : List UInt8) (o c k : Nat) (s : Sp), r = .slice (some ⟨g, o, none⟩) T.length c ∧ m = .int .i64 (k : Int) ∧ T.length ≤ c ∧ BytesAt w.heap.size w (some ⟨g, o, none⟩) T ∧ T.length % 8 = 0 ∧ chunks C R = L ++ chunks (T.length / 8) T ∧ Ahead n L k ∧ SpaceAt wx w.heap.size s ∧ s.n = n ∧ (∀ j, j < n → s.has j = inRuns L j) ∧ Below w.heap.size w wx) (fun r _ _ => lenOf r)
        case atStart => exact ⟨[], R, o4, cap - 4, 0, Sp.empty n, rfl, rfl, by have := HRL.out; omega, HRB.out, by have := HCC.out; omega, by rw [HCC.out, Nat.mul_div_cancel_left _ (by decide)]; rfl, Ahead.nil n, HS0.out, rfl, fun j _ => Sp.has_empty n j, HB0.out⟩
        case round =>
          obtain ⟨L, T, o, c, k, s, rfl, rfl, hTc, hTb, hT8, hch, hah, hsp, hsn, hhas, hbl⟩ := hrel
          by_cases hT : 0 < T.length
          · have hTz : (0 : Int) < (T.length : Int) := by omega
            have hbw := hbl.size
            have hslt : w.heap.size < wr.heap.size := hsp.lt
            obtain ⟨oa, hoa, hsa⟩ := slice_from g o T.length c 4 (by omega) hTc
            obtain ⟨ob, hob, hsb⟩ := slice_from g o T.length c 8 (by omega) hTc
            have n4 : ((4 : Nat) : Int) = 4 := rfl
            have n8 : ((8 : Nat) : Int) = 8 := rfl
            rw [n4] at hsa
            rw [n8] at hsb
            obtain ⟨f, hf⟩ : ∃ f, f = told T := ⟨_, rfl⟩
            obtain ⟨q, hq⟩ : ∃ q, q = told (T.drop 4) := ⟨_, rfl⟩
            have hfl : f < 4294967296 := by rw [hf]; exact told_lt _
            have hql : q < 4294967296 := by rw [hq]; exact told_lt _
            have HN1 : Hid (∀ W, Below wr.heap.size wr W → Calls Tryd.prog 40 #[.slice (some ⟨g, o, none⟩) T.length c] W fun e w' => e = .returned (.int .i64 (f : Int)) ∧ w' = W) := fun W hW => by
              rw [hf]; exact number_any W _ c T (hTb.below (hbl.trans (hW.mono hbw))) (by omega) hTc
            have HN2 : Hid (∀ W, Below wr.heap.size wr W → Calls Tryd.prog 40 #[.slice (some ⟨g, oa, none⟩) (T.length - 4) (c - 4)] W fun e w' => e = .returned (.int .i64 (q : Int)) ∧ w' = W) := fun W hW => by
              have h := number_any W _ (c - 4) (T.drop 4) (hoa _ _ T rfl (hTb.below (hbl.trans (hW.mono hbw)))) (by simp; omega) (by simp; omega)
              rw [List.length_drop] at h
              rw [hq]; exact h
            have HCH : Hid (chunks C R = L ++ (f, q) :: chunks ((T.drop 8).length / 8) (T.drop 8)) := by
              show _ = _
              rw [hch, hf, hq, show T.length / 8 = (T.drop 8).length / 8 + 1 by simp; omega]
              rfl
            have HTB : Hid (BytesAt w.heap.size w (some ⟨g, ob, none⟩) (T.drop 8)) := hob _ _ T rfl hTb
            have HE : Hid (Ahead n L k ∧ SpaceAt wr w.heap.size s ∧ s.n = n ∧ (∀ j, j < n → s.has j = inRuns L j) ∧ Below w.heap.size w wr) := ⟨hah, hsp, hsn, hhas, hbl⟩
            have hkn := hah.le
            clear hf hq hTb hch hah hsp hsn hhas hbl hoa hob n4 n8
            go_upto_region 12 with fail
            go_cut [9] (fun s9 wx => s9 = .pointer (some ⟨wr.heap.size, 0, none⟩) ∧ wx.heap[wr.heap.size]? = some (.cells #[.int .i64 (f : Int), .int .i64 (q : Int)] 64 (0, 0)) ∧ Below wr.heap.size wr wx)
            case first =>
              go_region_with (first
                | (go_at_call_of 40 (Value.slice (some ⟨g, o, none⟩) T.length c)
                   refine (HN1.out _ (by first | exact (Below.refl _ _).drew | exact Below.refl _ _ | exact (Below.refl _ _).drew.alloc (Nat.le_refl _) _ | exact ((Below.refl _ _).alloc (Nat.le_refl _) _).drew | exact (Below.refl _ _).alloc (Nat.le_refl _) _)).mono ?_
                   rintro e w' ⟨rfl, hw'⟩; obtain rfl := hw'.symm)
                | (go_at_call 40
                   refine (HN2.out _ (by first | exact (Below.refl _ _).drew | exact Below.refl _ _ | exact (Below.refl _ _).drew.alloc (Nat.le_refl _) _ | exact ((Below.refl _ _).alloc (Nat.le_refl _) _).drew | exact (Below.refl _ _).alloc (Nat.le_refl _) _)).mono ?_
                   rintro e w' ⟨rfl, hw'⟩; obtain rfl := hw'.symm))
              all_goals
                go_wp2_with fail
                go_meet
                exact ⟨rfl, heap_alloc_last wr _, ((Below.refl _ _).alloc (Nat.le_refl _) _).drew⟩
            case rest =>
              obtain ⟨rfl, hcc, hbc⟩ := hcut
              have hc0 : wc.cell? ⟨wr.heap.size, 0, none⟩ = some (.int .i64 (f : Int)) := row_cell hcc 0
              have hc1 : wc.cell? ⟨wr.heap.size, 1, none⟩ = some (.int .i64 (q : Int)) := row_cell hcc 1
              have HBC : Hid (Below w.heap.size w wc) := HE.out.2.2.2.2.trans (hbc.mono hbw)
              have HSC : Hid (SpaceAt wc w.heap.size s) := HE.out.2.1.below hbc
              have HCC2 : Hid _ := hcc
              have NO : Hid ((f < k ∨ q < 1 ∨ n < f + q) → ¬ Dec n bs) := fun hb hd => by
                have h1 := hd.runs
                rw [HRO.out, HCH.out] at h1
                exact HE.out.1.bad hb h1
              clear hcc hbc HN1 HN2 hsa
              by_cases hb1 : f < k
              · have hb1z : (f : Int) < (k : Int) := by omega
                go_wp2
                go_ret2
                exact .no rfl (NO.out (.inl hb1)) HBC.out
              · have hb1z : ¬ (f : Int) < (k : Int) := by omega
                by_cases hb2 : q < 1
                · have hb2z : (q : Int) < 1 := by omega
                  go_wp2
                  go_ret2
                  exact .no rfl (NO.out (.inr (.inl hb2))) HBC.out
                · have hb2z : ¬ (q : Int) < 1 := by omega
                  by_cases hb3 : n < f + q
                  · have hb3z : (n : Int) - (f : Int) < (q : Int) := by omega
                    go_wp2
                    go_ret2
                    exact .no rfl (NO.out (.inr (.inr hb3))) HBC.out
                  · have hb3z : ¬ (n : Int) - (f : Int) < (q : Int) := by omega
                    have hsn : s.n = n := HE.out.2.2.1
                    have HU := use_any wc w.heap.size s HSC.out f q (by omega)
                    have HSN : Hid (s.n = n) := hsn
                    clear hsn
                    go_wp2_with (go_at_call 28; refine HU.mono ?_; rintro e w5 ⟨rfl, hs5, hk5⟩
                                 have HS5 : Hid (SpaceAt w5 w.heap.size (s.use f q)) := hs5
                                 have HB5 : Hid (Below w.heap.size w w5) := Kept.below HBC.out hk5 HBC.out.size (fun i hi => by omega)
                                 have hcc5 := (hk5.block wr.heap.size (Array.getElem?_eq_some_iff.1 HCC2.out).1 (by omega)).trans HCC2.out
                                 have hc50 : w5.cell? ⟨wr.heap.size, 0, none⟩ = some (.int .i64 (f : Int)) := row_cell hcc5 0
                                 have hc51 : w5.cell? ⟨wr.heap.size, 1, none⟩ = some (.int .i64 (q : Int)) := row_cell hcc5 1
                                 clear hs5 hk5 hcc5)
                    have hdl : (T.drop 8).length = T.length - 8 := List.length_drop
                    refine ⟨⟨L ++ [(f, q)], T.drop 8, ob, c - 8, f + q + 1, s.use f q, by rw [hdl], by go_num, by omega, HTB.out, by omega, by rw [HCH.out]; simp, HE.out.1.snoc (by omega) (by omega) (by omega), HS5.out, by rw [Sp.use_n]; exact HSN.out, fun j hj => ?_, HB5.out⟩, by simp [lenOf]; omega⟩
                    have h0 := HE.out.2.2.2.1 j hj
                    rw [Sp.has_use, inRuns_append, h0]
                    by_cases hin : f ≤ j ∧ j < f + q
                    · rw [if_pos hin, HE.out.1.off j (by omega)]
                      simp [inRuns]; omega
                    · rw [if_neg hin]
                      have : inRuns [(f, q)] j = false := by simp [inRuns]; omega
                      rw [this, Bool.or_false]
          · have hTz : ¬ (0 : Int) < (T.length : Int) := by omega
            have HF : Hid (runsOf bs = L) := by
              show _ = _
              rw [HRO.out, hch, show T.length / 8 = 0 by omega]
              simp [chunks]
            have HD : Hid (Dec n bs) := ⟨by omega, by have := HRL.out; have := HCC.out; omega, by rw [← HRL.out, HCC.out, Nat.mul_div_cancel_left _ (by decide)]; exact HCT.out, by rw [HF.out]; have := (hah.iff []).2 .nil; rwa [List.append_nil] at this⟩
            have HE : Hid (SpaceAt wr w.heap.size s ∧ s.n = n ∧ (∀ j, j < n → s.has j = inRuns L j) ∧ Below w.heap.size w wr) := ⟨hsp, hsn, hhas, hbl⟩
            clear hTb hch hah hsp hhas hbl
            go_wp2
            go_ret2
            obtain ⟨q1, q2, q3, q4⟩ := HE.out
            exact .yes _ s rfl HD.out (Nat.le_refl _) q1 q2 (by rw [HF.out]; exact q3) q4
      · have hcb : (((C : Int)) != (told bs : Int)) = true := by rw [bne_iff_ne]; omega
        go_enter Tryd.func20, Tryd.ntmps20
        go_wp2_with (first
          | (go_at_call 27; refine HM.mono ?_; rintro e w' ⟨rfl, hw'⟩; obtain rfl := hw'.symm)
          | (go_at_call 40; refine HNum.mono ?_; rintro e w' ⟨rfl, hw'⟩; obtain rfl := hw'.symm))
        go_ret2
        exact .no rfl (fun hd => by have := hd.count; rw [← HRL.out, HCC.out, Nat.mul_div_cancel_left _ (by decide)] at this; exact hct this) (Below.refl _ _)
    · have h8b : (((R.length : Int) % 8) != 0) = true := by rw [bne_iff_ne]; omega
      go_enter Tryd.func20, Tryd.ntmps20
      go_wp2_with (go_at_call 27; refine HM.mono ?_; rintro e w' ⟨rfl, hw'⟩; obtain rfl := hw'.symm)
      go_ret2
      exact .no rfl (fun hd => by have := hd.even; rw [← HRL.out] at this; exact h8 this) (Below.refl _ _)
/-- Bytes that may be are told. -/
theorem DecPost.get {w : World} {n : Nat} {bs : List UInt8} {e : Ending} {w' : World} (h : DecPost w n bs e w') (hd : Dec n bs) :
    ∃ g s, e = .returned (.tuple #[.pointer (some ⟨g, 0, none⟩), .int .i64 0]) ∧ w.heap.size ≤ g ∧ SpaceAt w' g s ∧ s.n = n ∧ (∀ k, k < n → s.has k = inRuns (runsOf bs) k) ∧ Below w.heap.size w w' := by
  cases h with
  | no _ h2 _ => exact absurd hd h2
  | yes g s h1 _ h3 h4 h5 h6 h7 => exact ⟨g, s, h1, h3, h4, h5, h6, h7⟩
theorem decode_new (w : World) (n : Nat) (h16 : 16 ≤ n) (h65 : n ≤ 65536) {base : Nat} {v : Value} {bs : List UInt8} (h : NewB base w v bs) (hs : bs.length ≤ 140737488355328) :
    Calls Tryd.prog 20 #[.int .i64 n, v] w fun e w' => DecPost w n bs e w' := by
  have hb := newB_at h
  obtain ⟨_, hr⟩ := h
  rcases hr with ⟨rfl, h0⟩ | ⟨g, cap, cur, rfl, _, _, hc, _, _⟩
  · have hn : bs = [] := List.eq_nil_of_length_eq_zero h0
    subst hn
    exact decode_any w n h16 h65 none 0 [] (fun j c hj => by simp at hj) (by simp) (by simp)
  · obtain ⟨a, c, e, hb⟩ := hb
    cases e
    exact decode_any w n h16 h65 _ cap bs hb hc hs
end Go.Proofs.YtlokplnapaghhaaDoor
