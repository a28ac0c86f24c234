/- The law PageTurned's walk. -/
import Derived.Test.YtafkimhnllnopaaBackWalk
import Derived.BigRegion
namespace Go.Proofs.Ytafkimhnllnopaa
open Go.RowKit

theorem own_cap {w : World} {base q n c : Nat} {xs : List Value} (h : w.ownsRow base 5 1 (.slice (some ⟨q, 0, none⟩) n c) n xs) : n ≤ c := by
  obtain ⟨_, h2⟩ := h
  rcases h2 with ⟨e, _⟩ | ⟨g, cap, cur, e, _, _, h5, _⟩
  · cases e
  · cases e
    omega
/-- A text that is turned within 64 bits, and is not as it was, is no page. -/
theorem turned_none {S cs : List UInt8} {j : Nat} {D : BitVec 64} (hS : F (~~~ (0#64)) S = endState) (h : F (~~~ (0#64)) cs = F (~~~ (0#64)) S ^^^ Tn j D) (hD : D ≠ 0#64) : ¬ (formB cs = true ∧ sumB cs = true) := fun ⟨hf, hs⟩ => by
  have e := form_sealed hf hs
  have e2 : F (~~~ (0#64)) cs = endState := by rw [e]; exact F_sealed _
  rw [e2, hS] at h
  have e3 : Tn j D = 0#64 := by
    have := congrArg (fun v => endState ^^^ v) h
    simp only [← BitVec.xor_assoc, BitVec.xor_self, BitVec.zero_xor] at this
    exact this.symm
  exact hD (Tn_null e3)
theorem openE_turned {cs : List UInt8} (h : ¬ (formB cs = true ∧ sumB cs = true)) (number : Int) : openE cs number = 32 ∨ openE cs number = 34 := by
  unfold openE
  by_cases hf : formB cs = true
  · have hs : ¬ sumB cs = true := fun hs => h ⟨hf, hs⟩
    rw [if_pos hf, if_neg hs]
    exact .inr rfl
  · rw [if_neg hf]
    exact .inl rfl

set_option maxHeartbeats 3200000 in
set_option maxRecDepth 100000 in
theorem turned_walk (w : World) (z k n : Int) (g : Nat) (a : Option Addr) (cap : Nat) (bs : List UInt8) (at_ : Int) (run : BitVec 64) (hg : g < 18446744073709551616) (hz : (Lit.int .i64 z).wf = true) (hk : (Lit.int .i64 k).wf = true) (hn : (Lit.int .i64 n).wf = true)
    (hb : BytesAt w.heap.size w a bs) (hcap : bs.length ≤ cap) (hat : (Lit.int .i64 at_).wf = true) :
    Calls Try.prog 8 #[.int .i64 z, .agg #[.int .i64 k, .int .i64 n, .int .u64 (g : Int)], .slice a bs.length cap, .int .i64 at_, .int .u64 (run.toNat : Int)] w fun e w' => e = .returned (.bool true) ∧ Below w.heap.size w w' := by
  have HB : Hid (BytesAt w.heap.size w a bs) := hb
  have HZ : Hid _ := hz
  have HK : Hid _ := hk
  have HN : Hid _ := hn
  have HG : Hid _ := hg
  have hb0 : Below w.heap.size w (w.alloc (.cells #[.int .i64 k, .int .i64 n, .int .u64 (g : Int)] 26)) := (Below.refl _ _).alloc (Nat.le_refl _) _
  have HB0 : Hid _ := hb0
  have HX0 : Hid _ := heap_alloc_last w (.cells #[.int .i64 k, .int .i64 n, .int .u64 (g : Int)] 26)
  have HAT : Hid _ := hat
  clear hb hz hk hn hg hb0 hat
  go_enter Try.func8, Try.ntmps8
  go_wp2_with fail
  refine (alive_any _).mono ?_
  rintro _ w1 ⟨rfl, hb1⟩
  have HB1 : Hid (Below w.heap.size w w1) := HB0.out.trans (hb1.mono HB0.out.size)
  have hx1 : w1.heap[w.heap.size]? = some (.cells #[.int .i64 k, .int .i64 n, .int .u64 (g : Int)] 26 (0, 0)) := by rw [hb1.block _ (by simp)]; exact HX0.out
  obtain ⟨k0, k1, k2⟩ := head_cells hx1
  clear hb1 hx1
  go_wp2_with fail
  refine (may_any w1 z k n g a bs.length cap HZ.out HK.out HN.out hcap).mono ?_
  rintro _ w2 ⟨s, K, N, m, rfl, hmay, hb2⟩
  have HB2 : Hid (Below w.heap.size w w2) := HB1.out.trans (hb2.mono HB1.out.size)
  have HMAY : Hid _ := hmay
  have hms := hmay.short
  have hmr := hmay.room
  have hsb := sized_bounds hmay.sized
  have HPL : Hid ((bs.take m).length = m) := by show _ = _; simp; omega
  clear hb2 hmay k0 k1 k2
  go_upto_region 3 with fail
  obtain ⟨w3, hw3⟩ : ∃ w3, w3 = w2.alloc (.cells #[.int .i64 (K : Int), .int .i64 (N : Int), .int .u64 (g : Int)] 26) := ⟨_, rfl⟩
  rw [← hw3]
  have hb3 : Below w2.heap.size w2 w3 := by rw [hw3]; exact (Below.refl _ _).alloc (Nat.le_refl _) _
  have hx3 : w3.heap[w2.heap.size]? = some (.cells #[.int .i64 (K : Int), .int .i64 (N : Int), .int .u64 (g : Int)] 26 (0, 0)) := by rw [hw3]; exact heap_alloc_last _ _
  have HB3 : Hid (Below w.heap.size w w3) := HB2.out.trans (hb3.mono HB2.out.size)
  obtain ⟨b3, hb3e⟩ : ∃ b3, b3 = w2.heap.size := ⟨_, rfl⟩
  rw [← hb3e] at hx3 ⊢
  have HX3 : Hid _ := hx3
  obtain ⟨k0, k1, k2⟩ := head_cells hx3
  clear hb3 hw3 hx3 hb3e
  go_wp2_with fail
  refine (seal_as s K N g m _ _ _ (bs.take m) w3 rfl HMAY.out.sized HMAY.out.may ((HB.out.here HB3.out).take m) HPL.out hmr).mono ?_
  rintro _ w4 ⟨q4, rfl, hq4, hrow4, hb4⟩
  have HROW4 : Hid (RowIs w4 q4 (sealed s K N g (bs.take m))) := hrow4
  have hx4 : w4.heap[b3]? = some (.cells #[.int .i64 (K : Int), .int .i64 (N : Int), .int .u64 (g : Int)] 26 (0, 0)) := by rw [hb4.block _ (Array.getElem?_eq_some_iff.1 HX3.out).1]; exact HX3.out
  have HB4 : Hid (Below w.heap.size w w4) := HB3.out.trans (hb4.mono HB3.out.size)
  have HX4 : Hid _ := hx4
  clear k0 k1 k2
  obtain ⟨k0, k1, k2⟩ := head_cells hx4
  clear hb4 hx4 hrow4 hq4
  have HE : Hid (Below w4.heap.size w4 (w4.alloc (.cells #[] 5))) := (Below.refl _ _).alloc (Nat.le_refl _) _
  have HSL : Hid ((sealed s K N g (bs.take m)).length = s) := sealed_length s K N g (bs.take m) (by rw [HPL.out]; exact hmr)
  have HSF : Hid (F (~~~ (0#64)) (sealed s K N g (bs.take m)) = endState) := F_sealed _
  obtain ⟨S, hS⟩ : ∃ S, S = sealed s K N g (bs.take m) := ⟨_, rfl⟩
  have HS : Hid (S = sealed s K N g (bs.take m)) := hS
  rw [← hS] at HSL HSF HROW4
  clear hS k0 k1 k2
  go_wp2_with (first
    | (at_builtin; refine wpList_append_to rfl _ _ rfl w4.heap.size w4.heap.size 0 0 [] rfl (owns_empty w4) (some ⟨q4, 0, none⟩) s s S HSL.out rfl (HROW4.out.bytes.here HE.out) (fun h => by cases h) (by omega) (by simp) ?_
       intro g1 c1 w5 ho5 hg5
       rw [Nat.zero_add, List.nil_append] at ho5
       rw [Nat.zero_add]
       have HG1 : Hid (w4.heap.size ≤ g1) := own_base ho5
       have HO5 : Hid (w5.ownsRow w4.heap.size 5 1 (.slice (some ⟨g1, 0, none⟩) s c1) s (S.map encB)) := ho5
       have HB5 : Hid (Below w4.heap.size w4 w5) := HE.out.grown hg5 (by simp) (fun k e => by cases e; exact Nat.le_refl _)
       clear ho5 hg5))
  refine (pick_any _ _ _ HAT.out (by omega) (by omega)).mono ?_
  rintro _ wx ⟨rfl, hwx⟩
  rw [hwx]
  clear hwx
  obtain ⟨f, hf⟩ : ∃ f : Nat, pickOf at_ (8 * (s : Int)) = (f : Int) := ⟨(pickOf at_ (8 * (s : Int))).toNat, by have := (pickOf_range at_ (8 * (s : Int)) (by omega)).1; omega⟩
  have hf8 : f < 8 * s := by have := (pickOf_range at_ (8 * (s : Int)) (by omega)).2; omega
  rw [hf]
  clear hf
  go_wp2
  go_loopw [19] (fun i wr => ∃ (k : Nat) (cs : List UInt8), k ≤ 64 ∧ i = .int .i64 k ∧ cs.length = s ∧ wr.ownsRow w4.heap.size 5 1 (.slice (some ⟨g1, 0, none⟩) s c1) s (cs.map encB) ∧ F (~~~ (0#64)) cs = F (~~~ (0#64)) S ^^^ Tn (8 * s - f) (lowBits run k) ∧ (lowBits run k = 0#64 → cs = S) ∧ Below w4.heap.size w4 wr) (fun i _ => 64 - (intOf i).toNat)
  case atStart => exact ⟨0, S, by omega, rfl, HSL.out, HO5.out, by simp [lowBits, Tn_zero], fun _ => rfl, HB5.out⟩
  case round =>
    obtain ⟨k, cs, hk, rfl, hcl, hown, hF, h0, hbe⟩ := hrel
    have HOW : Hid (wr.ownsRow w4.heap.size 5 1 (.slice (some ⟨g1, 0, none⟩) s c1) s (cs.map encB)) := hown
    have HF : Hid (F (~~~ (0#64)) cs = F (~~~ (0#64)) S ^^^ Tn (8 * s - f) (lowBits run k)) := hF
    have H0 : Hid (lowBits run k = 0#64 → cs = S) := h0
    have HBE : Hid (Below w4.heap.size w4 wr) := hbe
    have HCL : Hid (cs.length = s) := hcl
    clear hF hbe hcl h0
    by_cases hgo : k < 64 ∧ f + k < 8 * s
    · obtain ⟨hk64, hfk⟩ := hgo
      have hkz : (k : Int) < 64 := by omega
      have hfz : (f : Int) + (k : Int) < 8 * (s : Int) := by omega
      have hrb := run_bit run k
      cases hr : run.getLsbD k with
      | false =>
        rw [hr] at hrb
        clear hown
        go_wp2
        refine ⟨⟨k + 1, cs, by omega, by go_num, HCL.out, HOW.out, by rw [lowBits_same _ _ hr]; exact HF.out, by rw [lowBits_same _ _ hr]; exact H0.out, HBE.out⟩, by simp [intOf]; omega⟩
      | true =>
        rw [hr] at hrb
        obtain ⟨q, r, hr8, hqr⟩ : ∃ q r : Nat, r < 8 ∧ f + k = 8 * q + r := ⟨(f + k) / 8, (f + k) % 8, by omega, by omega⟩
        have hd1 : ((f : Int) + (k : Int)).tdiv 8 = (q : Int) := by rw [Int.tdiv_eq_ediv_of_nonneg (by omega)]; omega
        have hd2 : ((f : Int) + (k : Int)) / 8 = (q : Int) := by omega
        have hm1 : ((f : Int) + (k : Int)).tmod 8 = (r : Int) := by rw [Int.tmod_eq_emod_of_nonneg (by omega)]; omega
        have hm2 : ((f : Int) + (k : Int)) % 8 = (r : Int) := by omega
        have hqx : q < s := by omega
        have hqz : (q : Int) < (s : Int) := by omega
        obtain ⟨c, hc⟩ : ∃ c, cs[q]? = some c := ⟨cs[q]'(by rw [HCL.out]; exact hqx), List.getElem?_eq_getElem (by rw [HCL.out]; exact hqx)⟩
        have hcell := hown.cellAt (j := q) (by omega)
        have hfzc := hown.frozenAt (j := q)
        rw [List.getElem?_map, hc] at hcell
        have hcell' : wr.cell? ⟨g1, q, none⟩ = some (.int .u8 (c.toNat : Int)) := by simpa [encB] using hcell
        have HCC : Hid _ := hc
        have HQR : Hid _ := hqr
        clear hown hcell hc hqr
        obtain ⟨d, hd, hdx⟩ := bit_byte r hr8
        have HD : Hid _ := hd
        have HDX : Hid _ := hdx
        clear hd hdx
        go_wp2
        go_region
        go_wp2
        rw [HDX.out]
        obtain ⟨h1, h2⟩ := World.ownsRow.stored (h := HOW.out) q (.int .u8 ((c ^^^ d).toNat : Int))
        have eset : (cs.map encB).set q (.int .u8 ((c ^^^ d).toNat : Int)) = (cs.set q (c ^^^ d)).map encB := by rw [List.map_set]; rfl
        rw [eset] at h1
        have eq1 : (f + k) / 8 = q := by have := HQR.out; omega
        have er1 : (f + k) % 8 = r := by have := HQR.out; omega
        have hSL := HSL.out
        have hFx := HF.out
        rw [← hSL] at hFx
        have hw := flip_window (~~~ (0#64)) S cs run f k (by rw [HCL.out, hSL]) hk64 (by rw [hSL]; exact hfk) hr c (by rw [eq1]; exact HCC.out) d (by rw [er1]; exact HD.out) hFx
        rw [eq1, hSL] at hw
        exact ⟨⟨k + 1, cs.set q (c ^^^ d), by omega, by go_num, by simp [HCL.out], h1.drew, hw, fun h => absurd h (lowBits_set run k hk64 hr), (HBE.out.setCell HG1.out _).drew⟩, by simp [intOf]; omega⟩
    · clear hown
      have hx6 : wr.heap[b3]? = some (.cells #[.int .i64 (K : Int), .int .i64 (N : Int), .int .u64 (g : Int)] 26 (0, 0)) := by rw [HBE.out.block _ (Array.getElem?_eq_some_iff.1 HX4.out).1]; exact HX4.out
      have HX6 : Hid _ := hx6
      obtain ⟨k0, k1, k2⟩ := head_cells hx6
      have HC1 : Hid (s ≤ c1) := own_cap HOW.out
      have HBY : Hid (BytesAt wr.heap.size wr (some ⟨g1, 0, none⟩) cs) := bytes_row HOW.out
      have HR6 : Hid (RowIs wr q4 S) := HROW4.out.here HBE.out
      have HB6 : Hid (Below w.heap.size w wr) := HB4.out.trans (HBE.out.mono HB4.out.size)
      clear hx6
      go_wp2_with fail
      all_goals
        clear k0 k1 k2
        by_cases hD : lowBits run k = 0#64
        · obtain rfl := H0.out hD
          refine (open_as wr g1 s K N g (bs.take m) m N HMAY.out.sized HMAY.out.may HG.out HPL.out hmr c1 HC1.out (by rw [← HS.out]; exact HBY.out)).mono ?_
          rintro _ w7 ⟨hb7, hor⟩
          rcases hor with ⟨hne, _⟩ | ⟨_, q7, c7, rfl, hown7⟩
          · exact absurd rfl hne
          have HB7 : Hid (Below w.heap.size w w7) := HB6.out.trans (hb7.mono HB6.out.size)
          have hx7 : w7.heap[b3]? = some (.cells #[.int .i64 (K : Int), .int .i64 (N : Int), .int .u64 (g : Int)] 26 (0, 0)) := by rw [hb7.block _ (Array.getElem?_eq_some_iff.1 HX6.out).1]; exact HX6.out
          have l7 : b3 < w7.heap.size := (Array.getElem?_eq_some_iff.1 hx7).1
          obtain ⟨k0, k1, k2⟩ := head_cells hx7
          have cv1 : ∀ o, (convert 27 9 (.slice (some ⟨g1, 0, none⟩) s c1)).run Try.prog (w7.alloc o) = .ok (.string (strB cs)) (w7.alloc o) := fun o => conv_any _ _ ((HBY.out.here hb7).here ((Below.refl _ _).alloc (Nat.le_refl _) o)) HSL.out
          have cv2 : ∀ o, (convert 27 9 (.slice (some ⟨q4, 0, none⟩) s s)).run Try.prog (w7.alloc o) = .ok (.string (strB cs)) (w7.alloc o) := fun o => conv_any _ _ ((HR6.out.bytes.here hb7).here ((Below.refl _ _).alloc (Nat.le_refl _) o)) HSL.out
          have cv3 : ∀ o, (convert 27 9 (.slice (some ⟨q7, 0, none⟩) m c7)).run Try.prog (w7.alloc o) = .ok (.string (strB (bs.take m))) (w7.alloc o) := fun o => conv_any _ _ ((bytes_row hown7).here ((Below.refl _ _).alloc (Nat.le_refl _) o)) HPL.out
          have cv4 : ∀ o, (convert 27 9 (.slice a m cap)).run Try.prog (w7.alloc o) = .ok (.string (strB (bs.take m))) (w7.alloc o) := fun o => conv_any _ _ (((HB.out.here HB7.out).take m).here ((Below.refl _ _).alloc (Nat.le_refl _) o)) HPL.out
          clear hb7 hx7 hown7 hD
          go_wp2
          go_ret
          exact ⟨rfl, HB7.out.alloc HB7.out.size _⟩
        · have HN1 : Hid (¬ (formB cs = true ∧ sumB cs = true)) := turned_none HSF.out HF.out hD
          have hcS : ¬ cs = S := fun e => by
            have hfs := HF.out
            rw [e] at hfs
            have e3 : Tn (8 * s - f) (lowBits run k) = 0#64 := by
              have := congrArg (fun v => F (~~~ (0#64)) S ^^^ v) hfs
              simp only [← BitVec.xor_assoc, BitVec.xor_self, BitVec.zero_xor] at this
              exact this.symm
            exact hD (Tn_null e3)
          have hstr2 : ((strB cs).toList == (strB S).toList) = false := by
            rw [beq_eq_false_iff_ne, ByteArray.toList_eq, ByteArray.toList_eq]
            intro e
            exact hcS (by simpa [strB] using e)
          have hop := open_any wr (some ⟨g1, 0, none⟩) c1 cs N HBY.out (by rw [HCL.out]; exact HC1.out) (by rw [HCL.out]; omega)
          rw [HCL.out] at hop
          refine hop.mono ?_
          clear hop
          rintro _ w7 ⟨hb7, hor⟩
          have hE := openE_turned HN1.out (N : Int)
          unfold headV at hor
          rcases hor with ⟨_, rfl⟩ | ⟨hz, _⟩
          · have HB7 : Hid (Below w.heap.size w w7) := HB6.out.trans (hb7.mono HB6.out.size)
            have cv1 : ∀ o, (convert 27 9 (.slice (some ⟨g1, 0, none⟩) s c1)).run Try.prog (w7.alloc o) = .ok (.string (strB cs)) (w7.alloc o) := fun o => conv_any _ _ ((HBY.out.here hb7).here ((Below.refl _ _).alloc (Nat.le_refl _) o)) HCL.out
            have cv2 : ∀ o, (convert 27 9 (.slice (some ⟨q4, 0, none⟩) s s)).run Try.prog (w7.alloc o) = .ok (.string (strB S)) (w7.alloc o) := fun o => conv_any _ _ ((HR6.out.bytes.here hb7).here ((Below.refl _ _).alloc (Nat.le_refl _) o)) HSL.out
            clear hb7 hD hcS
            rcases hE with hE | hE
            · rw [hE]
              clear hE
              go_wp2
              go_ret
              exact ⟨rfl, HB7.out.alloc HB7.out.size _⟩
            · rw [hE]
              clear hE
              go_wp2
              go_ret
              exact ⟨rfl, HB7.out.alloc HB7.out.size _⟩
          · rcases hE with hE | hE <;> (rw [hE] at hz; cases hz)
end Go.Proofs.Ytafkimhnllnopaa
