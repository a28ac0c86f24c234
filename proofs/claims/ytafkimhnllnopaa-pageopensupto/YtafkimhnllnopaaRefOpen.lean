/- The document's Open. -/
import Derived.Test.YtafkimhnllnopaaSealsWalk
import Derived.Deep.DeepCutAuto
namespace Go.Proofs.Ytafkimhnllnopaa
open Go.RowKit

theorem told_next (m : Nat) (c : UInt8) (h : m < 72057594037927936) : IntKind.u64.wrap (IntKind.u64.wrap (256 * (m : Int)) + IntKind.u64.wrap (c.toNat : Int)) = ((m * 256 + c.toNat : Nat) : Int) := by
  have hc := UInt8.toNat_lt c
  simp only [wrap64u]
  omega

set_option maxRecDepth 100000 in
theorem told_any (w : World) (a : Option Addr) (n cap : Nat) (bs : List UInt8) (hb : BytesAt w.heap.size w a bs) (hn : bs.length = n) (hlen : n ≤ 8) :
    Calls Try.prog 38 #[.slice a n cap] w fun e w' => e = .returned (.int .u64 (bev bs : Int)) ∧ w' = w := by
  subst hn
  have HB : Hid (BytesAt w.heap.size w a bs) := hb
  clear hb
  go_enter Try.func38, Try.ntmps38
  go_wp2
  go_loopw [4, 3] (fun i t wx => ∃ k : Nat, k ≤ bs.length ∧ i = .int .i64 k ∧ t = .int .u64 (bev (bs.take k) : Int) ∧ wx = w) (fun i _ _ => bs.length - (intOf i).toNat)
  case atStart => exact ⟨0, by omega, rfl, rfl, rfl⟩
  case round =>
    obtain ⟨k, hk, rfl, rfl, rfl⟩ := hrel
    by_cases hlt : k < bs.length
    · have hkz : (k : Int) < (bs.length : Int) := by omega
      obtain ⟨c, hc⟩ : ∃ c, bs[k]? = some c := ⟨bs[k], List.getElem?_eq_getElem hlt⟩
      obtain ⟨g, off, rfl, hg, hcell⟩ := HB.out k c hc
      have HN : Hid (bev (bs.take (k + 1)) = bev (bs.take k) * 256 + c.toNat) := bev_take bs k c hc
      have hm : bev (bs.take k) < 72057594037927936 := by
        have h1 := bev_lt (bs.take k)
        have h2 : (bs.take k).length ≤ 7 := by simp; omega
        have h3 : 256 ^ (bs.take k).length ≤ 256 ^ 7 := Nat.pow_le_pow_right (by decide) h2
        omega
      have HX : Hid _ := told_next _ c hm
      have HC : Hid (c.toNat < 256) := UInt8.toNat_lt c
      clear hc
      obtain ⟨m, hmm⟩ : ∃ m, m = bev (bs.take k) := ⟨_, rfl⟩
      rw [← hmm] at HN HX hm ⊢
      have HM : Hid (m < 72057594037927936) := hm
      clear hmm hm
      go_wp2
      refine ⟨⟨k + 1, by omega, by go_num, ?_, trivial⟩, by simp [intOf]; omega⟩
      rw [HN.out]
      refine congrArg (Value.int .u64) ?_
      have h1 := HM.out
      have h2 := HC.out
      simp only [wrap64u]
      omega
    · go_wp2
      go_ret
      obtain rfl : k = bs.length := by omega
      rw [List.take_length]
      exact ⟨rfl, rfl⟩
theorem told_as (w : World) (g off n cap : Nat) (ad : Option Addr) (bs : List UInt8) (i : Nat) (had : ad = some ⟨g, off + i, none⟩) (hb : BytesAt w.heap.size w (some ⟨g, off, none⟩) bs) (hn : i + n ≤ bs.length) (hlen : n ≤ 8) :
    Calls Try.prog 38 #[.slice ad n cap] w fun e w' => e = .returned (.int .u64 (bev ((bs.drop i).take n) : Int)) ∧ w' = w := by
  subst had
  exact told_any w _ n cap _ (hb.part i n) (by simp; omega) hlen

/-- Bytes that are, up to their sum, what is written of what they say have a page's form. -/
theorem form_of {bs : List UInt8} (hs : sizedB bs.length = true) (hm : mayB (kindAt bs) (numAt bs) = true) (hl : lenAt bs + 32 ≤ bs.length) (h : bs.take (bs.length - 8) = body bs.length (kindAt bs) (numAt bs) (genAt bs) (payOf bs)) : formB bs = true := by
  have hz := sized_bounds hs
  have hp : (payOf bs).length = lenAt bs := by simp [payOf]; omega
  have hg : genAt bs < 18446744073709551616 := by
    have := bev_lt ((bs.drop 8).take 8)
    rw [show ((bs.drop 8).take 8).length = 8 by simp; omega] at this
    exact this
  have := (said_body bs.length (kindAt bs) (numAt bs) (genAt bs) (payOf bs) (bs.drop (bs.length - 8)) hs hm hg (by omega) (by simp; omega)).1
  rw [← h, List.take_append_drop] at this
  exact this
theorem form_len {bs : List UInt8} (h : formB bs = true) : lenAt bs ≤ bs.length - 32 ∧ numAt bs < 65536 ∧ mayB (kindAt bs) (numAt bs) = true := by
  obtain ⟨_, _, h3, _, h5, _⟩ := form_body h
  have := may_bounds h5
  exact ⟨by omega, by omega, h5⟩
theorem sum_of {bs : List UInt8} (h : formB bs = true) : sumB bs = true ↔ sealed bs.length (kindAt bs) (numAt bs) (genAt bs) (payOf bs) = bs := by
  constructor
  · intro hs
    exact (form_sealed h hs).symm
  · intro e
    obtain ⟨_, h2, h3, h4, h5, h6⟩ := form_body h
    have := (sealed_form h4 h5 h6 (p := payOf bs) (by omega)).2.1
    rw [e] at this
    exact this
theorem openE_head {bs : List UInt8} {number : Int} (h : formB bs = false) : openE bs number = 32 := by simp [openE, h]

set_option maxHeartbeats 4000000 in
set_option maxRecDepth 100000 in
theorem refOpen_any (w : World) (gb : Nat) (cap : Nat) (bs : List UInt8) (number : Int) (hb : BytesAt w.heap.size w (some ⟨gb, 0, none⟩) bs) (hcap : bs.length ≤ cap) (hlen : bs.length ≤ 140737488355328) :
    Calls Try.prog 30 #[.slice (some ⟨gb, 0, none⟩) bs.length cap, .int .i64 number] w fun e w' => Below w.heap.size w w' ∧
      ((openE bs number ≠ 0 ∧ e = .returned (.tuple #[headV 0 0 0, .slice none 0 0, .int .i64 (openE bs number)])) ∨
       (openE bs number = 0 ∧ ∃ v, e = .returned (.tuple #[headV (kindAt bs) (numAt bs) (genAt bs), v, .int .i64 0]) ∧ w'.ownsRow w.heap.size 5 1 v (lenAt bs) ((payOf bs).map encB))) := by
  have HB : Hid (BytesAt w.heap.size w (some ⟨gb, 0, none⟩) bs) := hb
  clear hb
  have HBR : Hid (Below w.heap.size w (w.alloc (.cells #[.int .i64 0, .int .i64 0, .int .u64 0] 26))) := (Below.refl _ _).alloc (Nat.le_refl _) _
  go_enter Try.func30, Try.ntmps30
  go_wp2_with fail
  refine (refSized_any _ _).mono ?_
  rintro _ _ ⟨rfl, rfl⟩
  cases hs : sizedB bs.length with
  | false =>
    have HO : Hid (openE bs number = 32) := openE_head (by simp [formB, head1, hs])
    clear hs
    go_wp2
    refine bodyPost_ret (v := .tuple #[headV 0 0 0, .slice none 0 0, .int .i64 32]) (by simp [results, Try.results30, go_sem, headV]) rfl ⟨HBR.out, .inl ⟨by rw [HO.out]; decide, by rw [HO.out]⟩⟩
  | true =>
    have hz := sized_bounds hs
    have HSZ : Hid _ := hs
    have HB1 : Hid (BytesAt (w.alloc (.cells #[.int .i64 0, .int .i64 0, .int .u64 0] 26)).heap.size (w.alloc (.cells #[.int .i64 0, .int .i64 0, .int .u64 0] 26)) (some ⟨gb, 0, none⟩) bs) := HB.out.here HBR.out
    have hgb : gb < w.heap.size := by
      obtain ⟨g, off, e, hg, _⟩ := HB.out 0 (bs[0]'(by omega)) (List.getElem?_eq_getElem (by omega))
      cases e
      exact hg
    clear hs
    go_wp2_with fail
    refine (told_as _ gb 0 4 _ _ bs 16 rfl HB1.out (by omega) (by decide)).mono ?_
    rintro _ _ ⟨rfl, rfl⟩
    rw [show bev ((bs.drop 16).take 4) = lenAt bs from rfl]
    go_wp2_with fail
    refine (told_as _ gb 0 4 _ _ bs 4 rfl HB1.out (by omega) (by decide)).mono ?_
    rintro _ _ ⟨rfl, rfl⟩
    rw [show bev ((bs.drop 4).take 4) = numAt bs from rfl]
    have hl32 : lenAt bs < 4294967296 := by
      have := bev_lt ((bs.drop 16).take 4)
      rw [show ((bs.drop 16).take 4).length = 4 by simp; omega] at this
      exact this
    by_cases hn : numAt bs < 65536
    · have hn1 : ¬ (65535 < (numAt bs : Int)) := by omega
      have hn2 : decide (65535 < (numAt bs : Int)) = false := decide_eq_false hn1
      by_cases hL : lenAt bs ≤ bs.length - 32
      · have hL1 : ¬ ((bs.length : Int) - 32 < (lenAt bs : Int)) := by omega
        obtain ⟨c2, hc2⟩ : ∃ c, bs[2]? = some c := ⟨bs[2]'(by omega), List.getElem?_eq_getElem (by omega)⟩
        have HC2 : Hid (kindAt bs = c2.toNat) := by show _ = _; simp [kindAt, hc2]
        have y2 : (w.alloc (.cells #[.int .i64 0, .int .i64 0, .int .u64 0] 26)).cell? ⟨gb, 2, none⟩ = some (.int .u8 (c2.toNat : Int)) := by have := HB1.out.cellAt 2 c2 hc2; simpa using this
        have b2 : (2 : Int) < (bs.length : Int) := by omega
        clear hc2
        go_wp2_with fail
        go_cut [8] (fun s8 wx => s8 = .pointer (some ⟨w.heap.size + 1, 0, none⟩) ∧ Below (w.alloc (.cells #[.int .i64 0, .int .i64 0, .int .u64 0] 26)).heap.size (w.alloc (.cells #[.int .i64 0, .int .i64 0, .int .u64 0] 26)) wx ∧ wx.heap[w.heap.size + 1]? = some (.cells #[.int .i64 (c2.toNat : Int), .int .i64 (numAt bs : Int), .int .u64 (genAt bs : Int)] 26 (0, 0)))
        case first =>
          have HB2 : Hid (BytesAt ((w.alloc (.cells #[.int .i64 0, .int .i64 0, .int .u64 0] 26)).alloc (.cells #[.int .i64 0, .int .i64 0, .int .u64 0] 26)).heap.size ((w.alloc (.cells #[.int .i64 0, .int .i64 0, .int .u64 0] 26)).alloc (.cells #[.int .i64 0, .int .i64 0, .int .u64 0] 26)) (some ⟨gb, 0, none⟩) bs) := HB1.out.here ((Below.refl _ _).alloc (Nat.le_refl _) _)
          have HA : Hid (c2.toNat < 9223372036854775808) := by have := UInt8.toNat_lt c2; show _ < _; omega
          have HA2 : Hid (bev ((bs.drop 4).take 4) < 9223372036854775808) := by
            show _ < _
            have : numAt bs < 65536 := hn
            unfold numAt at this
            omega
          clear hn1 hn2 hL1 hL hn hl32 hlen HSZ HB HBR HC2
          go_region_held_law (fun W => W.cell? ⟨gb, 2, none⟩ = some (.int .u8 (c2.toNat : Int))) (go_keep)
            (first
              | (go_at_call_of 38 (8 : Nat); refine (told_as _ gb 0 8 _ _ bs 8 (by first | rfl | exact if_neg (by omega)) (by first | exact HB1.out | exact HB2.out) (by omega) (by decide)).mono ?_; rintro _ _ ⟨rfl, rfl⟩)
              | (go_at_call_of 38 (4 : Nat); refine (told_as _ gb 0 4 _ _ bs 4 (by first | rfl | exact if_neg (by omega)) (by first | exact HB1.out | exact HB2.out) (by omega) (by decide)).mono ?_; rintro _ _ ⟨rfl, rfl⟩))
          all_goals
            go_wp2_with fail
            go_meet
            exact read_rel w _ _ _ _ _ (by first | exact wrapw _ HA.out | exact wrapi _ HA.out) (by first | exact wrapw _ HA2.out | exact wrapi _ HA2.out)
        case rest =>
          obtain ⟨rfl, hbc, hhc⟩ := hcut
          have hrow0 : (w.alloc (.cells #[.int .i64 0, .int .i64 0, .int .u64 0] 26)).heap[w.heap.size]? = some (.cells #[.int .i64 0, .int .i64 0, .int .u64 0] 26 (0, 0)) := heap_alloc_last w _
          have hrc : wc.heap[w.heap.size]? = some (.cells #[.int .i64 0, .int .i64 0, .int .u64 0] 26 (0, 0)) := by rw [hbc.block _ (by simp)]; exact hrow0
          have RC : Hid (wc.heap[w.heap.size]? = some (.cells #[.int .i64 0, .int .i64 0, .int .u64 0] 26 (0, 0))) := hrc
          have HC : Hid (wc.heap[w.heap.size + 1]? = some (.cells #[.int .i64 (c2.toNat : Int), .int .i64 (numAt bs : Int), .int .u64 (genAt bs : Int)] 26 (0, 0))) := hhc
          have BW : Hid (Below w.heap.size w wc) := HBR.out.trans (hbc.mono HBR.out.size)
          have YC : Hid (BytesAt wc.heap.size wc (some ⟨gb, 0, none⟩) bs) := HB.out.here BW.out
          have PL : Hid ((payOf bs).length = lenAt bs) := by show _ = _; simp [payOf]; omega
          have YP : Hid (BytesAt wc.heap.size wc (some ⟨gb, 0 + 24, none⟩) (payOf bs)) := YC.out.part 24 (lenAt bs)
          obtain ⟨i0, hi, hz0, hz1, hz2⟩ := info5'
          have HSRC : Hid (∀ (j : Nat) (u : Value), ((payOf bs).map encB)[j]? = some u → wc.cell? ((⟨gb, 24, none⟩ : Addr).add j) = some u) := fun j u hj => by
            rw [List.getElem?_map] at hj
            cases e : (payOf bs)[j]? with
            | none => rw [e] at hj; cases hj
            | some x =>
              rw [e] at hj
              cases hj
              obtain ⟨g', off', e1, _, hc⟩ := YP.out j x e
              cases e1
              rw [add_at]
              exact hc
          obtain ⟨E, hE⟩ : ∃ E : Nat, 24 + (lenAt bs : Int) = (E : Int) := ⟨24 + lenAt bs, by omega⟩
          have HE : Hid (E = 24 + lenAt bs) := by show _ = _; omega
          have hE24 : (24 : Int) ≤ (E : Int) := by omega
          have hEc : (E : Int) ≤ (cap : Int) := by omega
          obtain ⟨k0, k1, k2⟩ := head_cells hhc
          clear hbc hhc hrc hrow0 y2
          go_wp2_with (first
            | (at_builtin; refine wpList_append_own wc rfl _ _ 27 rfl wc.heap.size 5 i0 (.int .u8 0) 1 1 Try.underlying27 hi hz0 hz1 hz2 rfl (by decide) (.slice none 0 0) 0 [] rfl (World.ownsRow_nil _ _ _ _) ⟨gb, 24, none⟩ (E - 24) _ ((payOf bs).map encB) rfl (by have := HE.out; have := PL.out; simp; omega) HSRC.out (oneB _) (by unfold maxLen; have := HE.out; omega) (by have := HE.out; omega) (Nat.le_refl _) ?_
               intro vp w3 hop hgp _
               have B3 : Hid (Below wc.heap.size wc w3) := (Below.refl wc.heap.size wc).grown hgp (Nat.le_refl _) (fun k e => by cases e)
               have OP : Hid (w3.ownsRow wc.heap.size 5 1 vp (lenAt bs) ((payOf bs).map encB)) := by
                 have e24 : 0 + (E - 24) = lenAt bs := by have := HE.out; omega
                 rw [e24, List.nil_append] at hop
                 exact hop
               obtain ⟨ap, cp, rfl, yp, _, _, nap⟩ := bytes_own OP.out
               have YP3 : Hid (BytesAt w3.heap.size w3 ap (payOf bs)) := yp
               have NAP : Hid (ap = none → cp = 0) := nap
               have hh3 : w3.heap[w.heap.size + 1]? = some (.cells #[.int .i64 (c2.toNat : Int), .int .i64 (numAt bs : Int), .int .u64 (genAt bs : Int)] 26 (0, 0)) := by rw [B3.out.block _ (Array.getElem?_eq_some_iff.1 HC.out).1]; exact HC.out
               have HC3 : Hid _ := hh3
               obtain ⟨m0, m1, m2⟩ := head_cells hh3
               clear hop hgp yp nap hh3))
          refine (refSeal_gen w3 bs.length (c2.toNat : Int) (numAt bs) (genAt bs) (lenAt bs) ap cp (payOf bs) YP3.out PL.out NAP.out).mono ?_
          rintro _ w4 ⟨va, rfl, hva, hb4⟩
          have B34 : Hid (Below wc.heap.size wc w4) := B3.out.trans (hb4.mono B3.out.size)
          have BW4 : Hid (Below w.heap.size w w4) := BW.out.trans (B34.out.mono BW.out.size)
          have OP4 : Hid (w4.ownsRow wc.heap.size 5 1 (.slice ap (lenAt bs) cp) (lenAt bs) ((payOf bs).map encB)) := own_here OP.out hb4
          have hr4 : w4.heap[w.heap.size]? = some (.cells #[.int .i64 0, .int .i64 0, .int .u64 0] 26 (0, 0)) := by rw [B34.out.block _ (Array.getElem?_eq_some_iff.1 RC.out).1]; exact RC.out
          have hh4 : w4.heap[w.heap.size + 1]? = some (.cells #[.int .i64 (c2.toNat : Int), .int .i64 (numAt bs : Int), .int .u64 (genAt bs : Int)] 26 (0, 0)) := by rw [B34.out.block _ (Array.getElem?_eq_some_iff.1 HC.out).1]; exact HC.out
          have R4 : Hid (w4.heap[w.heap.size]? = some (.cells #[.int .i64 0, .int .i64 0, .int .u64 0] 26 (0, 0))) := hr4
          have H4 : Hid (w4.heap[w.heap.size + 1]? = some (.cells #[.int .i64 (c2.toNat : Int), .int .i64 (numAt bs : Int), .int .u64 (genAt bs : Int)] 26 (0, 0))) := hh4
          have Y4 : Hid (BytesAt w4.heap.size w4 (some ⟨gb, 0, none⟩) bs) := HB.out.here BW4.out
          have VA : Hid (w4.ownsRow w3.heap.size 5 1 va (sealB bs.length (c2.toNat : Int) (numAt bs) (genAt bs) (payOf bs)).length ((sealB bs.length (c2.toNat : Int) (numAt bs) (genAt bs) (payOf bs)).map encB)) := hva
          clear hva hb4 m0 m1 m2 k0 k1 k2
          obtain ⟨z0, z1, z2⟩ := head_cells hr4
          obtain ⟨m0, m1, m2⟩ := head_cells hh4
          have f0 := row_frozen hr4 0
          have f1 := row_frozen hr4 1
          have f2 := row_frozen hr4 2
          clear hr4 hh4
          cases hmay : mayB (c2.toNat : Int) (numAt bs : Int) with
          | false =>
            have HO : Hid (openE bs number = 32) := openE_head (by
              cases e : formB bs with
              | false => rfl
              | true =>
                have := (form_len e).2.2
                rw [HC2.out, hmay] at this
                cases this)
            have e1 : sealE bs.length (c2.toNat : Int) (numAt bs) (lenAt bs) = 1 := sealE_arg (.inr hmay)
            rw [e1]
            clear e1 hmay
            go_wp2
            go_quiet (fail)
            go_wp2
            obtain ⟨W, hW⟩ : ∃ W, W = ((((w4.drewN nq).setCell ⟨w.heap.size, 0, none⟩ (.int .i64 0)).setCell ⟨w.heap.size, 1, none⟩ (.int .i64 0)).setCell ⟨w.heap.size, 2, none⟩ (.int .u64 0)) := ⟨_, rfl⟩
            have hWr : W.heap[w.heap.size]? = some (.cells #[.int .i64 0, .int .i64 0, .int .u64 0] 26 (0, 0)) := by rw [hW]; exact head_row (w := (w4.drewN nq)) _ _ _ R4.out
            have HWB : Hid (Below w.heap.size w W) := by rw [hW]; exact (((below_draws BW4.out nq).setCell (Nat.le_refl _) _).setCell (Nat.le_refl _) _).setCell (Nat.le_refl _) _
            rw [← hW]
            clear z0 z1 z2
            obtain ⟨z0, z1, z2⟩ := head_cells hWr
            refine bodyPost_ret (v := .tuple #[headV 0 0 0, .slice none 0 0, .int .i64 32]) (by simp [results, Try.results30, go_sem, headV, z0, z1, z2]) rfl ⟨HWB.out, .inl ⟨by rw [HO.out]; decide, by rw [HO.out]⟩⟩
          | true =>
            have e1 : sealE bs.length (c2.toNat : Int) (numAt bs) (lenAt bs) = 0 := sealE_ok HSZ.out hmay (by omega)
            have HS : Hid (sealB bs.length (c2.toNat : Int) (numAt bs) (genAt bs) (payOf bs) = sealed bs.length (kindAt bs) (numAt bs) (genAt bs) (payOf bs)) := by
              show _ = _
              rw [HC2.out]
              simp [sealB, PL.out, e1]
            rw [e1]
            have hmb : mayB (kindAt bs) (numAt bs) = true := by rw [HC2.out]; exact hmay
            have HMB : Hid (mayB (kindAt bs) (numAt bs) = true) := hmb
            obtain ⟨S, hS⟩ : ∃ S, S = sealed bs.length (kindAt bs) (numAt bs) (genAt bs) (payOf bs) := ⟨_, rfl⟩
            have SL : Hid (S.length = bs.length) := by show _ = _; rw [hS]; exact sealed_length _ _ _ _ _ (by have := PL.out; omega)
            obtain ⟨m, hm⟩ : ∃ m, Hid (bs.length = m + 8) := ⟨bs.length - 8, by show _ = _; omega⟩
            have STK : Hid (S.take m = body bs.length (kindAt bs) (numAt bs) (genAt bs) (payOf bs)) := by
              show _ = _
              rw [hS, show m = bs.length - 8 by have := hm.out; omega]
              exact sealed_take _ _ _ _ _ (by have := PL.out; omega)
            have HSS : Hid (S = sealed bs.length (kindAt bs) (numAt bs) (genAt bs) (payOf bs)) := hS
            have VA2 : Hid (w4.ownsRow w3.heap.size 5 1 va bs.length (S.map encB)) := by
              have := VA.out
              rw [HS.out, ← hS, SL.out] at this
              exact this
            obtain ⟨aa, ca, rfl, ya, _, hca, _⟩ := bytes_own VA2.out
            have hm8 : (bs.length : Int) - 8 = (m : Int) := by have := hm.out; omega
            have hmc : (m : Int) ≤ (cap : Int) := by have := hm.out; omega
            have hmc2 : (m : Int) ≤ (ca : Int) := by have := hm.out; omega
            have YA : Hid (BytesAt w4.heap.size w4 aa S) := ya
            have cv1 : ∀ k, (convert 27 9 (.slice aa m ca)).run Try.prog (w4.drewN k) = .ok (.string (strB (S.take m))) (w4.drewN k) := fun k => conv_any _ _ ((YA.out.take m).here (below_draws (Below.refl _ _) k)) (by have := hm.out; have := SL.out; simp; omega)
            have cv2 : ∀ k, (convert 27 9 (.slice (some ⟨gb, 0, none⟩) m cap)).run Try.prog (w4.drewN k) = .ok (.string (strB (bs.take m))) (w4.drewN k) := fun k => conv_any _ _ ((Y4.out.take m).here (below_draws (Below.refl _ _) k)) (by have := hm.out; simp; omega)
            have cv3 : ∀ k, (convert 27 9 (.slice aa bs.length ca)).run Try.prog (w4.drewN k) = .ok (.string (strB S)) (w4.drewN k) := fun k => conv_any _ _ (YA.out.here (below_draws (Below.refl _ _) k)) SL.out
            have cv4 : ∀ k, (convert 27 9 (.slice (some ⟨gb, 0, none⟩) bs.length cap)).run Try.prog (w4.drewN k) = .ok (.string (strB bs)) (w4.drewN k) := fun k => conv_any _ _ (Y4.out.here (below_draws (Below.refl _ _) k)) rfl
            clear e1 hmay hmb hS ya
            by_cases hbd : S.take m = bs.take m
            · have HF : Hid (formB bs = true) := form_of HSZ.out HMB.out (by omega) (by rw [← STK.out, hbd, show bs.length - 8 = m by have := hm.out; omega])
              rw [hbd] at cv1
              clear hbd
              by_cases hSb : S = bs
              · rw [hSb] at cv3
                have HSU : Hid (sumB bs = true) := (sum_of HF.out).2 (HSS.out.symm.trans hSb)
                clear hSb
                by_cases hnum : (numAt bs : Int) = number
                · have HO : Hid (openE bs number = 0) := by show _ = _; simp [openE, HF.out, HSU.out, hnum]
                  have hnb : ((numAt bs : Int) == number) = true := by rw [beq_iff_eq]; exact hnum
                  have hnb2 : ((numAt bs : Int) != number) = false := by simp [bne, hnb]
                  clear hnum
                  go_wp2
                  go_quiet (fail)
                  go_wp2
                  obtain ⟨W, hW⟩ : ∃ W, W = ((((w4.drewN nq).setCell ⟨w.heap.size, 0, none⟩ (.int .i64 (c2.toNat : Int))).setCell ⟨w.heap.size, 1, none⟩ (.int .i64 (numAt bs : Int))).setCell ⟨w.heap.size, 2, none⟩ (.int .u64 (genAt bs : Int))) := ⟨_, rfl⟩
                  have hWr : W.heap[w.heap.size]? = some (.cells #[.int .i64 (c2.toNat : Int), .int .i64 (numAt bs : Int), .int .u64 (genAt bs : Int)] 26 (0, 0)) := by rw [hW]; exact head_row (w := w4.drewN nq) _ _ _ R4.out
                  have HWB : Hid (Below w.heap.size w W) := by rw [hW]; exact (((below_draws BW4.out nq).setCell (Nat.le_refl _) _).setCell (Nat.le_refl _) _).setCell (Nat.le_refl _) _
                  have HWO : Hid (W.ownsRow w.heap.size 5 1 (.slice ap (lenAt bs) cp) (lenAt bs) ((payOf bs).map encB)) := by
                    refine own_mono (own_same OP4.out fun q hq _ => ?_) BW.out.size
                    have hne : q ≠ w.heap.size := by have := (own_type OP4.out q hq).2.1; have := (Array.getElem?_eq_some_iff.1 RC.out).1; omega
                    rw [hW, heap_set_other _ hne, heap_set_other _ hne, heap_set_other _ hne]
                    rfl
                  rw [← hW]
                  clear z0 z1 z2
                  obtain ⟨z0, z1, z2⟩ := head_cells hWr
                  refine bodyPost_ret (v := .tuple #[headV (c2.toNat : Int) (numAt bs) (genAt bs), .slice ap (lenAt bs) cp, .int .i64 0]) (by simp [results, Try.results30, go_sem, headV, z0, z1, z2]) rfl ⟨HWB.out, .inr ⟨HO.out, _, ?_, HWO.out⟩⟩
                  rw [HC2.out]
                · have HO : Hid (openE bs number = 33) := by show _ = _; simp [openE, HF.out, HSU.out, hnum]
                  have hnb : ((numAt bs : Int) == number) = false := by rw [beq_eq_false_iff_ne]; exact hnum
                  have hnb2 : ((numAt bs : Int) != number) = true := by simp [bne, hnb]
                  clear hnum
                  go_wp2
                  go_quiet (fail)
                  go_wp2
                  obtain ⟨W, hW⟩ : ∃ W, W = ((((w4.drewN nq).setCell ⟨w.heap.size, 0, none⟩ (.int .i64 0)).setCell ⟨w.heap.size, 1, none⟩ (.int .i64 0)).setCell ⟨w.heap.size, 2, none⟩ (.int .u64 0)) := ⟨_, rfl⟩
                  have hWr : W.heap[w.heap.size]? = some (.cells #[.int .i64 0, .int .i64 0, .int .u64 0] 26 (0, 0)) := by rw [hW]; exact head_row (w := (w4.drewN nq)) _ _ _ R4.out
                  have HWB : Hid (Below w.heap.size w W) := by rw [hW]; exact (((below_draws BW4.out nq).setCell (Nat.le_refl _) _).setCell (Nat.le_refl _) _).setCell (Nat.le_refl _) _
                  rw [← hW]
                  clear z0 z1 z2
                  obtain ⟨z0, z1, z2⟩ := head_cells hWr
                  refine bodyPost_ret (v := .tuple #[headV 0 0 0, .slice none 0 0, .int .i64 33]) (by simp [results, Try.results30, go_sem, headV, z0, z1, z2]) rfl ⟨HWB.out, .inl ⟨by rw [HO.out]; decide, by rw [HO.out]⟩⟩
              · have HO : Hid (openE bs number = 34) := by
                  have : sumB bs = false := by
                    cases e : sumB bs with
                    | false => rfl
                    | true => exact absurd (HSS.out.trans ((sum_of HF.out).1 e)) hSb
                  show _ = _
                  simp [openE, HF.out, this]
                have hne : ((strB S).toList == (strB bs).toList) = false := by
                  rw [beq_eq_false_iff_ne, ByteArray.toList_eq, ByteArray.toList_eq]
                  intro e
                  exact hSb (by simpa [strB] using e)
                clear hSb
                go_wp2
                go_quiet (fail)
                go_wp2
                obtain ⟨W, hW⟩ : ∃ W, W = ((((w4.drewN nq).setCell ⟨w.heap.size, 0, none⟩ (.int .i64 0)).setCell ⟨w.heap.size, 1, none⟩ (.int .i64 0)).setCell ⟨w.heap.size, 2, none⟩ (.int .u64 0)) := ⟨_, rfl⟩
                have hWr : W.heap[w.heap.size]? = some (.cells #[.int .i64 0, .int .i64 0, .int .u64 0] 26 (0, 0)) := by rw [hW]; exact head_row (w := (w4.drewN nq)) _ _ _ R4.out
                have HWB : Hid (Below w.heap.size w W) := by rw [hW]; exact (((below_draws BW4.out nq).setCell (Nat.le_refl _) _).setCell (Nat.le_refl _) _).setCell (Nat.le_refl _) _
                rw [← hW]
                clear z0 z1 z2
                obtain ⟨z0, z1, z2⟩ := head_cells hWr
                refine bodyPost_ret (v := .tuple #[headV 0 0 0, .slice none 0 0, .int .i64 34]) (by simp [results, Try.results30, go_sem, headV, z0, z1, z2]) rfl ⟨HWB.out, .inl ⟨by rw [HO.out]; decide, by rw [HO.out]⟩⟩
            · have HO : Hid (openE bs number = 32) := openE_head (by
                cases e : formB bs with
                | false => rfl
                | true =>
                  have := (form_body e).1
                  rw [show bs.length - 8 = m by have := hm.out; omega, ← STK.out] at this
                  exact absurd this.symm hbd)
              have hne : ((strB (S.take m)).toList == (strB (bs.take m)).toList) = false := by
                rw [beq_eq_false_iff_ne, ByteArray.toList_eq, ByteArray.toList_eq]
                intro e
                exact hbd (by simpa [strB] using e)
              clear hbd
              go_wp2
              go_quiet (fail)
              go_wp2
              obtain ⟨W, hW⟩ : ∃ W, W = ((((w4.drewN nq).setCell ⟨w.heap.size, 0, none⟩ (.int .i64 0)).setCell ⟨w.heap.size, 1, none⟩ (.int .i64 0)).setCell ⟨w.heap.size, 2, none⟩ (.int .u64 0)) := ⟨_, rfl⟩
              have hWr : W.heap[w.heap.size]? = some (.cells #[.int .i64 0, .int .i64 0, .int .u64 0] 26 (0, 0)) := by rw [hW]; exact head_row (w := (w4.drewN nq)) _ _ _ R4.out
              have HWB : Hid (Below w.heap.size w W) := by rw [hW]; exact (((below_draws BW4.out nq).setCell (Nat.le_refl _) _).setCell (Nat.le_refl _) _).setCell (Nat.le_refl _) _
              rw [← hW]
              clear z0 z1 z2
              obtain ⟨z0, z1, z2⟩ := head_cells hWr
              refine bodyPost_ret (v := .tuple #[headV 0 0 0, .slice none 0 0, .int .i64 32]) (by simp [results, Try.results30, go_sem, headV, z0, z1, z2]) rfl ⟨HWB.out, .inl ⟨by rw [HO.out]; decide, by rw [HO.out]⟩⟩
      · have hL1 : (bs.length : Int) - 32 < (lenAt bs : Int) := by omega
        have HO : Hid (openE bs number = 32) := openE_head (by
          cases e : formB bs with
          | false => rfl
          | true => exact absurd (form_len e).1 hL)
        go_wp2
        refine bodyPost_ret (v := .tuple #[headV 0 0 0, .slice none 0 0, .int .i64 32]) (by simp [results, Try.results30, go_sem, headV]) rfl ⟨HBR.out, .inl ⟨by rw [HO.out]; decide, by rw [HO.out]⟩⟩
    · have hn1 : 65535 < (numAt bs : Int) := by omega
      have hn2 : decide (65535 < (numAt bs : Int)) = true := decide_eq_true hn1
      have HO : Hid (openE bs number = 32) := openE_head (by
        cases e : formB bs with
        | false => rfl
        | true => exact absurd (form_len e).2.1 hn)
      go_wp2
      refine bodyPost_ret (v := .tuple #[headV 0 0 0, .slice none 0 0, .int .i64 32]) (by simp [results, Try.results30, go_sem, headV]) rfl ⟨HBR.out, .inl ⟨by rw [HO.out]; decide, by rw [HO.out]⟩⟩
end Go.Proofs.Ytafkimhnllnopaa
