/- SpaceForm's walk. -/
import Derived.Test.YtlokplnapaghhaaDoorDecode
import Derived.Test.YtlokplnapaghhaaDoorArgs9
namespace Go.Proofs.YtlokplnapaghhaaDoor
open Go.RowKit

theorem form_same {w w' : World} {g o : Nat} (h : w'.heap[g]? = w.heap[g]?) : w'.cell? ⟨g, o, none⟩ = w.cell? ⟨g, o, none⟩ := by
  simp [World.cell?, h]
set_option maxRecDepth 100000 in
theorem form_bad (w : World) (ht : Tab w) (blocks : Int) (v : Value) (h : ¬ (16 ≤ blocks ∧ blocks ≤ 65536)) :
    Calls Tryd.prog 7 #[.int .i64 blocks, v] w fun e w' => e = .returned (.bool true) ∧ Below w.heap.size w w' := by
  have HA := alive_any w ht
  have h1 : newOk blocks 0 = false := by
    cases h1 : newOk blocks 0 with
    | false => rfl
    | true => simp only [newOk, Bool.and_eq_true, decide_eq_true_eq] at h1; omega
  have h2 : newOk blocks blocks = false := by
    cases h2 : newOk blocks blocks with
    | false => rfl
    | true => simp only [newOk, Bool.and_eq_true, decide_eq_true_eq] at h2; omega
  clear ht h
  go_enter Tryd.func7, Tryd.ntmps7
  go_wp2_with (first
    | (go_at_call 8; refine HA.mono ?_; rintro e w1 ⟨rfl, hb⟩; have HB : Hid (Below w.heap.size w w1) := hb; clear hb)
    | (have _ := K1; go_at_call 9; refine (new_bad w1 blocks blocks h2).mono ?_; rintro e w' ⟨rfl, hw'⟩; obtain rfl := hw'.symm)
    | (go_at_call 9; refine (new_bad w1 blocks 0 h1).mono ?_; rintro e w' ⟨rfl, hw'⟩; obtain rfl := hw'.symm; have K1 : Hid True := trivial))
  go_ret
  exact ⟨rfl, HB.out⟩
theorem Sp.full_has (n j : Nat) (h : j < n) : ((Sp.empty n).use 0 n).has j = true := by rw [Sp.new_has]; simpa using h
theorem Sp.least_ext {s t : Sp} (hn : s.n = t.n) (h : ∀ k, k < s.n → s.has k = t.has k) : s.least = t.least := by
  have h1 := s.least_is
  have h2 := t.least_is
  rw [← hn] at h2
  refine h1.uniq ⟨h2.le, h2.top, fun j h3 h4 => by rw [h j (by have := h2.top; omega)]; exact h2.not j h3 h4, fun h5 => by rw [h _ h5]; exact h2.hit h5⟩
/-- Two spaces alike. -/
structure Like (s t : Sp) : Prop where
  n : s.n = t.n
  has : ∀ k, k < s.n → s.has k = t.has k
theorem Like.enc {s t : Sp} (h : Like s t) : s.enc = t.enc := by rw [Sp.enc_is, Sp.enc_is, Sp.runs_ext h.n h.has]
theorem Like.allocE {s t : Sp} (h : Like s t) : s.allocE = t.allocE := by unfold Sp.allocE; rw [Sp.least_ext h.n h.has, h.n]
theorem Like.allocN {s t : Sp} (h : Like s t) : s.allocN = t.allocN := by unfold Sp.allocN; rw [Sp.least_ext h.n h.has, h.n]
theorem Like.allocS {s t : Sp} (h : Like s t) : Like s.allocS t.allocS := by
  unfold Sp.allocS
  rw [Sp.least_ext h.n h.has, h.n]
  by_cases hl : t.least < t.n
  · rw [if_pos hl, if_pos hl]
    refine ⟨h.n, fun k hk => ?_⟩
    have hk' : k < s.n := hk
    rw [Sp.has_turn, Sp.has_turn, h.has k hk', h.has t.least (by rw [h.n]; exact hl)]
  · rw [if_neg hl, if_neg hl]; exact h
theorem Sp.takeS_n (s : Sp) (z : Int) : (s.takeS z).n = s.n := by
  unfold Sp.takeS
  split
  · split <;> rfl
  · rfl
theorem Sp.allocS_n (s : Sp) : s.allocS.n = s.n := by
  unfold Sp.allocS
  split <;> rfl
set_option maxRecDepth 100000 in
set_option maxHeartbeats 4000000 in
theorem form_ok (w : World) (ht : Tab w) (n : Nat) (h1 : 16 ≤ n) (h2 : n ≤ 65536) (v : Value) (L : List Int) (hL : IntsIn w v L) :
    Calls Tryd.prog 7 #[.int .i64 n, v] w fun e w' => e = .returned (.bool true) ∧ Below w.heap.size w w' := by
  have HA := alive_any w ht
  have HT : Hid (Tab w) := ht
  obtain ⟨⟨aL, cL, rfl, hLc⟩, hLs, hLf⟩ := hL
  have HL : Hid _ := hLc
  have HN0 := fun W => new_ok W n 0 h1 h2 (Nat.zero_le _)
  have HN1 := fun W => new_ok W n n h1 h2 (Nat.le_refl _)
  have n0 : ((0 : Nat) : Int) = 0 := rfl
  simp only [n0] at HN0
  clear ht hLc n0
  go_enter Tryd.func7, Tryd.ntmps7
  go_wp2_with (first
    | (go_at_call 8; refine HA.mono ?_; rintro e w1 ⟨rfl, hb⟩; have HB1 : Hid (Below w.heap.size w w1) := hb; clear hb)
    | (go_at_call 9; refine (HN1 w2).mono ?_; rintro e w3 ⟨rfl, hs3, hb3⟩
       have HT3 : Hid (SpaceAt w3 w2.heap.size ((Sp.empty n).use 0 n)) := hs3
       have HS3 : Hid (SpaceAt w3 w1.heap.size (Sp.empty n)) := HS2.out.below hb3
       have HB3 : Hid (Below w.heap.size w w3) := HB2.out.trans (hb3.mono HB2.out.size)
       clear hs3 hb3)
    | (go_at_call 9; refine (HN0 w1).mono ?_; rintro e w2 ⟨rfl, hs2, hb2⟩
       have HS2 : Hid (SpaceAt w2 w1.heap.size (Sp.empty n)) := hs2
       have HB2 : Hid (Below w.heap.size w w2) := HB1.out.trans (hb2.mono HB1.out.size)
       have hlt2 : w1.heap.size < w2.heap.size := hs2.lt
       clear hs2 hb2))
  obtain ⟨a, ha⟩ : ∃ a, a = w1.heap.size := ⟨_, rfl⟩
  obtain ⟨b, hb⟩ : ∃ b, b = w2.heap.size := ⟨_, rfl⟩
  have hwa : w.heap.size ≤ a := by rw [ha]; exact HB1.out.size
  have hab : a < b := by omega
  rw [← ha] at HS3 ⊢
  rw [← hb] at HT3 ⊢
  clear ha hb hlt2 HS2 HB2 HB1
  go_loopw [10] (fun i wx => ∃ (k : Nat) (s : Sp), k ≤ L.length ∧ i = .int .i64 k ∧ s.n = n ∧ SpaceAt wx a s ∧ SpaceAt wx b ((Sp.empty n).use 0 n) ∧ Below w.heap.size w wx) (fun i _ => L.length - (intOf i).toNat)
  case atStart => exact ⟨0, Sp.empty n, by omega, rfl, rfl, HS3.out, HT3.out, HB3.out⟩
  case round =>
    obtain ⟨k, s, hk, rfl, hn, hs, ht, hbl⟩ := hrel
    by_cases hlt : k < L.length
    · have hltz : (k : Int) < (L.length : Int) := by omega
      obtain ⟨z, hz⟩ : ∃ z, L[k]? = some z := ⟨L[k]'hlt, List.getElem?_eq_getElem hlt⟩
      obtain ⟨gL, off, rfl, hgL, hcz⟩ := HL.out k z hz
      have hcell : wr.cell? ⟨gL, off + k, none⟩ = some (.int .i64 z) := by rw [← hcz]; exact hbl.cell hgL
      have HTK := take_any wr a s hs z
      have HTB : Hid _ := ht
      have HB : Hid _ := hbl
      have HSN : Hid ((s.takeS z).n = n) := by rw [Hid, Sp.takeS_n]; exact hn
      clear hs ht hbl hz hcz hn
      go_wp2_with (go_at_call 25; refine HTK.mono ?_; rintro e w4 ⟨rfl, hs4, hk4⟩
                   have HS4 : Hid (SpaceAt w4 a (s.takeS z)) := hs4
                   have HT4 : Hid (SpaceAt w4 b ((Sp.empty n).use 0 n)) := HTB.out.kept hk4 (by omega)
                   have HB4 : Hid (Below w.heap.size w w4) := Kept.below HB.out hk4 HB.out.size (fun i hi => by omega)
                   clear hs4 hk4)
      exact ⟨⟨k + 1, s.takeS z, by omega, by go_num, HSN.out, HS4.out, HT4.out, HB4.out⟩, by simp [intOf]; omega⟩
    · have hltz : ¬ (k : Int) < (L.length : Int) := by omega
      have HS : Hid _ := hs
      have HTB : Hid _ := ht
      have HB : Hid _ := hbl
      have HSN : Hid (s.n = n) := hn
      have n1 : (n : Int) - 1 = ((n - 1 : Nat) : Int) := by omega
      clear hs ht hbl hn n1
      go_wp2
      go_loopw [11] (fun i wx => ∃ (m : Nat) (t : Sp), m ≤ n ∧ i = .int .i64 ((m : Int) - 1) ∧ t.n = n ∧ (∀ j, m ≤ j → j < n → t.has j = s.has j) ∧ (∀ j, j < m → t.has j = true) ∧ SpaceAt wx a s ∧ SpaceAt wx b t ∧ Below w.heap.size w wx) (fun i _ => (intOf i + 1).toNat)
      case atStart => exact ⟨n, (Sp.empty n).use 0 n, Nat.le_refl _, rfl, Sp.use_n _ _ _, fun j h3 h4 => by omega, fun j hj => Sp.full_has n j hj, HS.out, HTB.out, HB.out⟩
      case round =>
        clear HS HTB HB
        obtain ⟨m, t, hm, rfl, htn, hj1, hj2, hs, ht, hbl⟩ := hrel
        by_cases hm0 : 0 < m
        · have hmz : (0 : Int) ≤ (m : Int) - 1 := by omega
          obtain ⟨i, hi⟩ : ∃ i : Nat, i = m - 1 := ⟨_, rfl⟩
          have hiz : (m : Int) - 1 = (i : Int) := by omega
          have hmi : m = i + 1 := by omega
          subst hmi
          have hiz2 : (((i + 1 : Nat)) : Int) - 1 = (i : Int) := by omega
          rw [hiz2]
          have HH := has_in wr a s hs i (by have := HSN.out; omega)
          have HFR := free_any wr b t ht i
          have HJ1 : Hid _ := hj1
          have HJ2 : Hid _ := hj2
          have HS : Hid _ := hs
          have HTB : Hid _ := ht
          have HB : Hid _ := hbl
          have hti : t.has i = true := hj2 i (by omega)
          have hin : inB i t.n = true := inB_nat (by omega)
          have hE : t.freeE i = 0 := by simp [Sp.freeE, hin, hti]
          have hS : t.freeS i = t.turn i := by simp [Sp.freeS, hin, hti]
          rw [hE, hS] at HFR
          have HTI : Hid (t.has i = true) := hti
          have HTN : Hid (t.n = n) := htn
          clear hi hiz hmz hs ht hbl hj1 hj2 hti hin hE hS htn hiz2
          have hi0 : (0 : Int) ≤ (i : Int) := by omega
          cases hsi : s.has i with
          | true =>
            rw [hsi] at HH
            have HSI : Hid (s.has i = true) := hsi
            clear hsi HFR
            go_wp2_with (go_at_call 23; refine HH.mono ?_; rintro e w' ⟨rfl, hw'⟩; obtain rfl := hw'.symm)
            refine ⟨⟨i, t, by omega, by go_num, HTN.out, fun j h3 h4 => ?_, fun j hj => HJ2.out j (by omega), HS.out, HTB.out, HB.out⟩, by simp [intOf]⟩
            by_cases e : j = i
            · rw [e, HTI.out, HSI.out]
            · exact HJ1.out j (by omega) h4
          | false =>
            rw [hsi] at HH
            have HSI : Hid (s.has i = false) := hsi
            clear hsi
            go_wp2_with (first
              | (go_at_call 23; refine HH.mono ?_; rintro e w' ⟨rfl, hw'⟩; obtain rfl := hw'.symm)
              | (go_at_call 24; refine HFR.mono ?_; rintro e w5 ⟨rfl, hs5, hk5⟩
                 have HT5 : Hid (SpaceAt w5 b (t.turn i)) := hs5
                 have HS5 : Hid (SpaceAt w5 a s) := HS.out.kept hk5 (by omega)
                 have HB5 : Hid (Below w.heap.size w w5) := Kept.below HB.out hk5 HB.out.size (fun i hi => by omega)
                 clear hs5 hk5))
            refine ⟨⟨i, t.turn i, by omega, by go_num, HTN.out, fun j h3 h4 => ?_, fun j hj => ?_, HS5.out, HT5.out, HB5.out⟩, by simp [intOf]⟩
            · rw [Sp.has_turn]
              by_cases e : j = i
              · rw [if_pos e, HTI.out, e, HSI.out]; rfl
              · rw [if_neg e]; exact HJ1.out j (by omega) h4
            · rw [Sp.has_turn, if_neg (by omega)]; exact HJ2.out j (by omega)
        · have hmz : ¬ (0 : Int) ≤ (m : Int) - 1 := by omega
          have HLT : Hid (Like s t) := ⟨by rw [HSN.out, htn], fun j hj => by have := HSN.out; exact (hj1 j (by omega) (by omega)).symm⟩
          have HS : Hid (SpaceAt wr a s) := hs
          have HTB : Hid (SpaceAt wr b t) := ht
          have HB : Hid (Below w.heap.size w wr) := hbl
          have HTW : Hid (Tab wr) := HT.out.below hbl
          have hbw := hbl.size
          obtain ⟨E, hE⟩ : ∃ E, E = s.enc := ⟨_, rfl⟩
          have HET : Hid (t.enc = E) := by rw [Hid, hE]; exact HLT.out.enc.symm
          have HEL : Hid (E.length ≤ 140737488355328) := by
            show _ ≤ _
            rw [hE, Sp.enc_is]
            unfold encL
            have := s.runs_length
            have := HSN.out
            rw [List.length_append, be4_length, encR_length]
            omega
          have HDC : Hid (Dec n E ∧ runsOf E = s.runs) := by
            have hr := s.runs_runs
            have := s.runs_length
            rw [HSN.out] at hr this
            have h := dec_enc hr h2 (by omega)
            rw [hE, Sp.enc_is]
            exact h
          have HEA : Hid (∀ W, Below wr.heap.size wr W → Calls Tryd.prog 26 #[.pointer (some ⟨a, 0, none⟩)] W fun e w' => ∃ v, e = .returned v ∧ NewB W.heap.size w' v E ∧ Below W.heap.size W w') := fun W hW => by
            rw [hE]; exact encode_any W a s (HS.out.below hW) (HTW.out.below hW)
          have HEB : Hid (∀ W, Below wr.heap.size wr W → Calls Tryd.prog 26 #[.pointer (some ⟨b, 0, none⟩)] W fun e w' => ∃ v, e = .returned v ∧ NewB W.heap.size w' v E ∧ Below W.heap.size W w') := fun W hW => by
            rw [← HET.out]; exact encode_any W b t (HTB.out.below hW) (HTW.out.below hW)
          have hq : ((strB E).toList != (strB E).toList) = false := by simp
          have HTN : Hid (t.n = n) := htn
          clear hs ht hbl hj1 hj2 htn hE
          go_wp2_with (first
            | (go_at_call 26; refine (encode_any w4 c sc (HC4.out) (HTW.out.below HR4.out)).mono ?_; rw [HEC.out]; rintro e w5 ⟨v5, rfl, hv5, hb5⟩
               have hcv5 := conv_new hv5
               have HR5 : Hid (Below wr.heap.size wr w5) := HR4.out.trans (hb5.mono HR4.out.size)
               have HC5 : Hid (SpaceAt w5 c sc) := HC4.out.below hb5
               clear hv5 hb5)
            | (go_at_call 26; refine (HEB.out w3 HR3.out).mono ?_; rintro e w4 ⟨v4, rfl, hv4, hb4⟩
               have hcv4 := conv_new hv4
               have HR4 : Hid (Below wr.heap.size wr w4) := HR3.out.trans (hb4.mono HR3.out.size)
               have HC4 : Hid (SpaceAt w4 c sc) := HC3.out.below hb4
               clear hv4 hb4)
            | (go_at_call 20; refine (decode_new w2 n h1 h2 HV2.out HEL.out).mono ?_; intro e w3 hd
               obtain ⟨c, sc, rfl, hcg, hc3, hcn, hch, hb3⟩ := hd.get HDC.out.1
               have HR3 : Hid (Below wr.heap.size wr w3) := HR2.out.trans (hb3.mono HR2.out.size)
               have HC3 : Hid (SpaceAt w3 c sc) := hc3
               have HLC : Hid (Like s sc) := ⟨by rw [HSN.out, hcn], fun j hj => by have := HSN.out; rw [hch j (by omega), HDC.out.2]; exact s.runs_has hj⟩
               have HEC : Hid (sc.enc = E) := by rw [Hid, ← HET.out, ← HLT.out.enc]; exact HLC.out.enc.symm
               have hcb : b < c := by have := HR2.out.size; have := HTB.out.lt; omega
               clear hc3 hcn hch hb3 hcg)
            | (go_at_call 26; refine (HEA.out w1 HR1.out).mono ?_; rintro e w2 ⟨v2, rfl, hv2, hb2⟩
               have HV2 : Hid (NewB w1.heap.size w2 v2 E) := hv2
               have HR2 : Hid (Below wr.heap.size wr w2) := HR1.out.trans (hb2.mono HR1.out.size)
               clear hv2 hb2)
            | (go_at_call 26; refine (HEA.out wr (Below.refl _ _)).mono ?_; rintro e w1 ⟨v1, rfl, hv1, hb1⟩
               have hcv1 := conv_new hv1
               have HR1 : Hid (Below wr.heap.size wr w1) := hb1
               clear hv1 hb1))
          go_loopw [15] (fun i wx => ∃ (q : Nat) (x y z : Sp), q ≤ 3 ∧ i = .int .i64 q ∧ x.n = n ∧ Like x y ∧ Like x z ∧ SpaceAt wx a x ∧ SpaceAt wx b y ∧ SpaceAt wx c z ∧ Below w.heap.size w wx) (fun i _ => 3 - (intOf i).toNat)
          case atStart => exact ⟨0, s, t, sc, by omega, rfl, HSN.out, HLT.out, HLC.out, HS.out.below HR5.out, HTB.out.below HR5.out, HC5.out, HB.out.trans (HR5.out.mono hbw)⟩
          case round =>
            clear HEA HEB HET HDC HEL HLT HLC HEC HS HTB HTW HC3 HC4 HC5 HR1 HR2 HR3 HR4 HR5 HB hcv1 hcv4 hcv5 HV2
            obtain ⟨q, x, y, z, hq3, rfl, hxn, hxy, hxz, hx, hy, hz, hbl⟩ := hrel
            have htab := HT.out.below hbl
            by_cases hqlt : q < 3
            · have hqz : (q : Int) < 3 := by omega
              have HA1 := alloc_any wr a x hx htab
              have HA2 : Hid (∀ W, SpaceAt W b y → Tab W → Calls Tryd.prog 22 #[.pointer (some ⟨b, 0, none⟩)] W fun e w' => e = .returned (.tuple #[.int .i64 x.allocN, .int .i64 x.allocE]) ∧ SpaceAt w' b y.allocS ∧ Kept (fun i => i = b) W w') := fun W h1 h2 => by
                rw [hxy.allocN, hxy.allocE]; exact alloc_any W b y h1 h2
              have HA3 : Hid (∀ W, SpaceAt W c z → Tab W → Calls Tryd.prog 22 #[.pointer (some ⟨c, 0, none⟩)] W fun e w' => e = .returned (.tuple #[.int .i64 x.allocN, .int .i64 x.allocE]) ∧ SpaceAt w' c z.allocS ∧ Kept (fun i => i = c) W w') := fun W h1 h2 => by
                rw [hxz.allocN, hxz.allocE]; exact alloc_any W c z h1 h2
              have HLX : Hid (Like x.allocS y.allocS ∧ Like x.allocS z.allocS ∧ x.allocS.n = n) := ⟨hxy.allocS, hxz.allocS, by rw [Sp.allocS_n]; exact hxn⟩
              have HY : Hid _ := hy
              have HZ : Hid _ := hz
              have HB : Hid _ := hbl
              have hN : (x.allocN != x.allocN) = false := by simp
              have hE : (x.allocE != x.allocE) = false := by simp
              generalize x.allocN = N at HA1 HA2 HA3 hN
              generalize x.allocE = F at HA1 HA2 HA3 hE
              clear hx hy hz hbl htab hxy hxz hxn
              go_wp2_with (first
                | (go_at_call 22; refine (HA3.out w7 HZ7.out HT7.out).mono ?_; rintro e w8 ⟨rfl, hs8, hk8⟩
                   have HZ8 : Hid (SpaceAt w8 c z.allocS) := hs8
                   have HX8 : Hid (SpaceAt w8 a x.allocS) := HX7.out.kept hk8 (by omega)
                   have HY8 : Hid (SpaceAt w8 b y.allocS) := HY7.out.kept hk8 (by omega)
                   have HB8 : Hid (Below w.heap.size w w8) := Kept.below HB7.out hk8 HB7.out.size (fun i hi => by omega)
                   clear hs8 hk8)
                | (go_at_call 22; refine (HA2.out w6 HY6.out HT6.out).mono ?_; rintro e w7 ⟨rfl, hs7, hk7⟩
                   have HY7 : Hid (SpaceAt w7 b y.allocS) := hs7
                   have HX7 : Hid (SpaceAt w7 a x.allocS) := HX6.out.kept hk7 (by omega)
                   have HZ7 : Hid (SpaceAt w7 c z) := HZ6.out.kept hk7 (by omega)
                   have HB7 : Hid (Below w.heap.size w w7) := Kept.below HB6.out hk7 HB6.out.size (fun i hi => by omega)
                   have HT7 : Hid (Tab w7) := HT.out.below HB7.out
                   clear hs7 hk7)
                | (go_at_call 22; refine HA1.mono ?_; rintro e w6 ⟨rfl, hs6, hk6⟩
                   have HX6 : Hid (SpaceAt w6 a x.allocS) := hs6
                   have HY6 : Hid (SpaceAt w6 b y) := HY.out.kept hk6 (by omega)
                   have HZ6 : Hid (SpaceAt w6 c z) := HZ.out.kept hk6 (by omega)
                   have HB6 : Hid (Below w.heap.size w w6) := Kept.below HB.out hk6 HB.out.size (fun i hi => by omega)
                   have HT6 : Hid (Tab w6) := HT.out.below HB6.out
                   clear hs6 hk6))
              exact ⟨⟨q + 1, x.allocS, y.allocS, z.allocS, by omega, by go_num, HLX.out.2.2, HLX.out.1, HLX.out.2.1, HX8.out, HY8.out, HZ8.out, HB8.out⟩, by simp [intOf]; omega⟩
            · have hqz : ¬ (q : Int) < 3 := by omega
              obtain ⟨E, hE⟩ : ∃ E, E = x.enc := ⟨_, rfl⟩
              have HEA : Hid (∀ W, Below wr.heap.size wr W → Calls Tryd.prog 26 #[.pointer (some ⟨a, 0, none⟩)] W fun e w' => ∃ v, e = .returned v ∧ NewB W.heap.size w' v E ∧ Below W.heap.size W w') := fun W hW => by
                rw [hE]; exact encode_any W a x (hx.below hW) (htab.below hW)
              have HEB : Hid (∀ W, Below wr.heap.size wr W → Calls Tryd.prog 26 #[.pointer (some ⟨b, 0, none⟩)] W fun e w' => ∃ v, e = .returned v ∧ NewB W.heap.size w' v E ∧ Below W.heap.size W w') := fun W hW => by
                rw [hE, hxy.enc]; exact encode_any W b y (hy.below hW) (htab.below hW)
              have HEC : Hid (∀ W, Below wr.heap.size wr W → Calls Tryd.prog 26 #[.pointer (some ⟨c, 0, none⟩)] W fun e w' => ∃ v, e = .returned v ∧ NewB W.heap.size w' v E ∧ Below W.heap.size W w') := fun W hW => by
                rw [hE, hxz.enc]; exact encode_any W c z (hz.below hW) (htab.below hW)
              have hqe : ((strB E).toList == (strB E).toList) = true := by simp
              have HB : Hid (Below w.heap.size w wr) := hbl
              have hbw := hbl.size
              have HCU : Hid (Below wr.heap.size wr wr.drew) := (Below.refl _ _).drew
              clear hx hy hz hbl htab hxy hxz hxn hE
              go_upto_region 27 with fail
              go_region_with (first
                | (go_at_call_of 26 (Value.pointer (some ⟨a, 0, none⟩))
                   refine (HEA.out _ HCU.out).mono ?_
                   rintro e wA ⟨vA, rfl, hvA, hbA⟩
                   have hcA := conv_new hvA
                   have HVA : Hid (NewB _ wA vA E) := hvA
                   try have hcB2 := conv_new (own_here HVB.out hbA)
                   have HCU : Hid (Below wr.heap.size wr wA) := HCU.out.trans (hbA.mono HCU.out.size)
                   clear hvA hbA)
                | (go_at_call_of 26 (Value.pointer (some ⟨b, 0, none⟩))
                   refine (HEB.out _ HCU.out).mono ?_
                   rintro e wB ⟨vB, rfl, hvB, hbB⟩
                   have hcB := conv_new hvB
                   have HVB : Hid (NewB _ wB vB E) := hvB
                   try have hcA2 := conv_new (own_here HVA.out hbB)
                   have HCU : Hid (Below wr.heap.size wr wB) := HCU.out.trans (hbB.mono HCU.out.size)
                   clear hvB hbB)
                | (go_at_call 26
                   refine (HEC.out _ HCU.out).mono ?_
                   rintro e wC ⟨vC, rfl, hvC, hbC⟩
                   have hcC := conv_new hvC
                   have HVB : Hid (NewB _ wC vC E) := hvC
                   try have hcA2 := conv_new (own_here HVA.out hbC)
                   have HCU : Hid (Below wr.heap.size wr wC) := HCU.out.trans (hbC.mono HCU.out.size)
                   clear hvC hbC))
              all_goals
                go_wp2_with fail
                go_ret
                exact ⟨rfl, HB.out.trans (HCU.out.mono hbw)⟩
theorem spaceForm_any (w : World) (ht : Tab w) (blocks : Int) (_ : (Lit.int .i64 blocks).wf = true) (v : Value) (L : List Int) (hL : IntsIn w v L) :
    Calls Tryd.prog 7 #[.int .i64 blocks, v] w fun e w' => e = .returned (.bool true) ∧ Below w.heap.size w w' := by
  by_cases h : 16 ≤ blocks ∧ blocks ≤ 65536
  · obtain ⟨n, rfl⟩ : ∃ n : Nat, blocks = n := ⟨blocks.toNat, by omega⟩
    exact form_ok w ht n (by omega) (by omega) v L hL
  · exact form_bad w ht blocks v h
end Go.Proofs.YtlokplnapaghhaaDoor
