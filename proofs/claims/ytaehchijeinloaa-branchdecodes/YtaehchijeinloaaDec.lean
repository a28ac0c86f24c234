/- Decode. -/
import Derived.Test.YtaehchijeinloaaRead
namespace Go.Proofs.Ytaehchijeinloaa
open Go.RowKit

/-- What Decode tells: its error, its children. -/
def decErr (z : Int) (b : Key) : Nat := if ¬ Sized z then 1 else if (decK z b).isSome then 0 else 65
def decD (z : Int) (b : Key) : Kd := (decK z b).getD ⟨[], []⟩
theorem decErr_ok {z : Int} {b : Key} : decErr z b = 0 ↔ decK z b = some (decD z b) := by
  unfold decErr decD
  constructor
  · intro h
    split at h
    · cases h
    · split at h
      · rename_i h1
        obtain ⟨d, hd⟩ := Option.isSome_iff_exists.1 h1
        rw [hd]; rfl
      · cases h
  · intro h
    have h1 := (decK_iff.1 h).1
    rw [if_neg (by simpa using (checkK_ok h1).1), h]
    rfl
/-- Kids of new memory. -/
structure NewKids (base : Nat) (w : World) (v : Value) (d : Kd) : Prop where
  is : ∃ (vp vk : Value) (F : List Kc), v = .agg #[vp, vk] ∧ NewInts base w vp d.ps ∧ NewKeys base w vk F ∧ keysOf F = d.ks
theorem NewKids.here {base : Nat} {w w' : World} {v : Value} {d : Kd} (h : NewKids base w v d) (hb : Below w.heap.size w w') : NewKids base w' v d := by
  obtain ⟨vp, vk, F, e, h1, h2, h3⟩ := h.is
  exact ⟨vp, vk, F, e, h1.here hb, h2.here hb, h3⟩
theorem NewKids.mono {base base' : Nat} {w : World} {v : Value} {d : Kd} (h : NewKids base w v d) (hb : base' ≤ base) : NewKids base' w v d := by
  obtain ⟨vp, vk, F, e, h1, h2, h3⟩ := h.is
  exact ⟨vp, vk, F, e, h1.mono hb, h2.mono hb, h3⟩
theorem NewKids.keep {base T B : Nat} {w w' : World} {v : Value} {d : Kd} (h : NewKids base w v d) (hk : Keep T B w w') (h1 : 5 ≠ T) (h2 : 27 ≠ T) (h3 : 3 ≠ T) : NewKids base w' v d := by
  obtain ⟨vp, vk, F, e, g1, g2, g3⟩ := h.is
  exact ⟨vp, vk, F, e, g1.keep hk h3, g2.keep hk h1 h2, g3⟩
theorem NewKids.nil (base : Nat) (w : World) : NewKids base w (.agg #[.slice none 0 0, .slice none 0 0]) ⟨[], []⟩ := ⟨_, _, [], rfl, NewInts.nil _ _, NewKeys.nil _ _, rfl⟩
theorem NewKids.at {base : Nat} {w : World} {v : Value} {d : Kd} (h : NewKids base w v d) (h1 : d.ps.length * 8 ≤ 140737488355328) (h2 : d.ks.length * 24 ≤ 140737488420864) (hf : ∀ p ∈ d.ps, -9223372036854775808 ≤ p ∧ p ≤ 9223372036854775807) : ∃ L, KidsAt w.heap.size w v d.ps L ∧ keysOf L = d.ks := by
  obtain ⟨vp, vk, F, e, g1, g2, g3⟩ := h.is
  have hl : F.length = d.ks.length := by rw [← keysOf_length, g3]
  exact ⟨F, ⟨vp, vk, e, g1.ints h1 hf, g2.at (by omega)⟩, g3⟩
theorem readP_fits (n : Nat) (b : Key) : ∀ p ∈ readP n b, 0 ≤ p ∧ p < 4294967296 := by
  induction n generalizing b with
  | zero => intro p hp; simp [readP] at hp
  | succ n ih =>
    intro p hp
    rcases List.mem_cons.1 (show p ∈ (num (b.take 4) : Int) :: readP n (b.drop 4) from hp) with rfl | h
    · have h1 := num_bound (b.take 4)
      have h2 : 256 ^ (b.take 4).length ≤ 256 ^ 4 := Nat.pow_le_pow_right (by decide) (by rw [List.length_take]; omega)
      omega
    · exact ih _ p h
theorem readK_fits {b : Key} {d : Kd} {t : Key} (h : readK b = some (d, t)) : ∀ p ∈ d.ps, 0 ≤ p ∧ p < 4294967296 := by
  unfold readK at h
  split at h
  · cases h
  · split at h
    · cases h
    · obtain ⟨y, _, e⟩ := Option.map_eq_some_iff.1 h
      cases e
      exact readP_fits _ _

set_option maxHeartbeats 1600000 in
set_option maxRecDepth 100000 in
theorem decode_any {w : World} {v : Value} {b : Key} {z : Int} (h : KeyAt w v b) :
    Calls Try.prog 16 #[.int .i64 z, v] w fun r w' => ∃ v', r = .returned (.tuple #[v', .int .i64 (decErr z b : Nat)]) ∧ NewKids w.heap.size w' v' (decD z b) ∧ Below w.heap.size w w' := by
  obtain ⟨a, c, rfl⟩ := h.in.form
  have hsh := h.short
  have HRO : Hid (∀ w, Calls Try.prog 39 #[.int .i64 z] w fun r w' => r = .returned (.int .i64 (if Sized z then z - 32 else 0)) ∧ w' = w) := fun w => roomOf_any w z
  obtain ⟨W, hW⟩ : ∃ W, W = w.alloc (.cells #[.slice none 0 0, .slice none 0 0] 26) := ⟨_, rfl⟩
  have HBW : Hid (Below w.heap.size w W) := by rw [hW]; exact below_new _ _
  have HX : Hid (KBox W w.heap.size (.slice none 0 0) (.slice none 0 0)) := by rw [hW]; exact KBox.new _ _ _
  have HK : Hid (KeyAt W (.slice a b.length c) b) := h.here HBW.out
  obtain ⟨x0, x1⟩ := HX.out.cells
  obtain ⟨f0, f1⟩ := HX.out.open
  clear h
  have HNO : Hid (∀ e W', decErr z b = e → decD z b = ⟨[], []⟩ → Below W.heap.size W W' → KBox W' w.heap.size (.slice none 0 0) (.slice none 0 0) →
      (∃ v', Ending.returned (.tuple #[.agg #[.slice none 0 0, .slice none 0 0], .int .i64 (e : Nat)]) = .returned (.tuple #[v', .int .i64 (decErr z b : Nat)]) ∧ NewKids w.heap.size ((W'.setCell ⟨w.heap.size, 0, none⟩ (.slice none 0 0)).setCell ⟨w.heap.size, 1, none⟩ (.slice none 0 0)) v' (decD z b) ∧ Below w.heap.size w ((W'.setCell ⟨w.heap.size, 0, none⟩ (.slice none 0 0)).setCell ⟨w.heap.size, 1, none⟩ (.slice none 0 0)))) := fun e W' he hd hb hx =>
    ⟨_, by rw [he], by rw [hd]; exact NewKids.nil _ _, hx.putNil (HBW.out.trans (hb.mono HBW.out.size)) (Nat.le_refl _)⟩
  by_cases hz : Sized z
  · have hzz := sized_le hz
    have hzn : (z - 32 == 0) = false := by rw [beq_eq_false_iff_ne]; omega
    have HRO' : Hid (∀ w, Calls Try.prog 39 #[.int .i64 z] w fun r w' => r = .returned (.int .i64 (z - 32)) ∧ w' = w) := by
      intro w; have := HRO.out w; rw [if_pos hz] at this; exact this
    clear HRO
    by_cases hl : z - 32 < (b.length : Int)
    · have hd0 : decK z b = none := by unfold decK; rw [if_neg (by rintro ⟨_, h⟩; omega)]
      have HE : Hid (decErr z b = 65 ∧ decD z b = ⟨[], []⟩) := by
        unfold decErr decD; rw [Hid, hd0, if_neg (by simpa using hz)]; exact ⟨rfl, rfl⟩
      clear hd0 hz
      go_enter Try.func16, Try.ntmps16
      go_upto_region 1 with fail
      rw [← hW]
      clear hW
      go_wp2_with (go_at_call 39; refine (HRO'.out _).mono ?_; rintro r w5 ⟨rfl, hw5⟩; obtain rfl := hw5.symm)
      exact bodyPost_ret (ret_kids2 (u := .int .i64 65) rfl rfl rfl (HX.out.put _ _)) rfl (HNO.out 65 W HE.out.1 HE.out.2 (Below.refl _ _) HX.out)
    · have hlb : b.length ≤ 4064 := by omega
      have HRD := read_any HK.out hlb
      have HDK : Hid (decK z b = match readK b with | some (d, []) => if checkK z d = 0 then some d else none | _ => none) := by
        unfold decK; rw [Hid, if_pos ⟨hz, by omega⟩]; rfl
      have HSZ : Hid (Sized z) := hz
      clear hz
      go_enter Try.func16, Try.ntmps16
      go_upto_region 1 with fail
      rw [← hW]
      clear hW
      go_upto_region 5 with (go_at_call 39; refine (HRO'.out _).mono ?_; rintro r w5 ⟨rfl, hw5⟩; obtain rfl := hw5.symm)
      go_wp2_with fail
      refine HRD.mono ?_
      rintro r w1 hr
      obtain ⟨vp, vk, ps, F, ok, rfl, hni, hnk, hb1, hcase⟩ := hr.is
      obtain ⟨ap, cp, ep⟩ : ∃ a c, vp = .slice a ps.length c := by
        obtain ⟨a, c, e⟩ := (own_cells hni.own (by simp)).form
        rw [List.length_map] at e
        exact ⟨a, c, e⟩
      subst ep
      obtain ⟨ak, ck, ek⟩ : ∃ a c, vk = .slice a F.length c := by
        obtain ⟨a, c, e⟩ := (own_cells hnk.own (by simp)).form
        rw [List.length_map] at e
        exact ⟨a, c, e⟩
      subst ek
      have HB1 : Hid (Below W.heap.size W w1) := hb1
      have HX1 : Hid (KBox w1 w.heap.size (.slice none 0 0) (.slice none 0 0)) := HX.out.here hb1
      have HNI : Hid (NewInts W.heap.size w1 (.slice ap ps.length cp) ps) := hni
      have HNK : Hid (NewKeys W.heap.size w1 (.slice ak F.length ck) F) := hnk
      clear HRD hr hni hnk hb1 x0 x1 f0 f1
      go_upto_region 6 with fail
      obtain ⟨W2, hW2⟩ : ∃ W2, W2 = w1.alloc (.cells #[.slice ap ps.length cp, .slice ak F.length ck] 26) := ⟨_, rfl⟩
      rw [← hW2]
      have hb2 : Below w1.heap.size w1 W2 := by rw [hW2]; exact below_new _ _
      have HB2 : Hid (Below W.heap.size W W2) := HB1.out.trans (hb2.mono HB1.out.size)
      have HX2 : Hid (KBox W2 w.heap.size (.slice none 0 0) (.slice none 0 0)) := HX1.out.here hb2
      have HY2 : Hid (KBox W2 w1.heap.size (.slice ap ps.length cp) (.slice ak F.length ck)) := by rw [hW2]; exact KBox.new _ _ _
      have HNI2 : Hid (NewInts W.heap.size W2 (.slice ap ps.length cp) ps) := HNI.out.here hb2
      have HNK2 : Hid (NewKeys W.heap.size W2 (.slice ak F.length ck) F) := HNK.out.here hb2
      clear hW2 hb2 HNI HNK HX1 HB1
      obtain ⟨x0, x1⟩ := HX2.out.cells
      obtain ⟨f0, f1⟩ := HX2.out.open
      obtain ⟨y0, y1⟩ := HY2.out.cells
      have HBAD : Hid (decK z b = none → decErr z b = 65 ∧ decD z b = ⟨[], []⟩) := fun hd0 => by
        unfold decErr decD; rw [hd0, if_neg (by simpa using HSZ.out)]; exact ⟨rfl, rfl⟩
      cases ok with
      | false =>
        have HE : Hid (decErr z b = 65 ∧ decD z b = ⟨[], []⟩) := by
          refine HBAD.out ?_
          rw [HDK.out]
          rcases hcase with ⟨h, _⟩ | ⟨t, h, ht⟩
          · rw [h]
          · rw [h]
            cases t with
            | nil => simp at ht
            | cons x r => rfl
        clear hcase HDK HBAD HSZ
        go_wp2
        exact bodyPost_ret (ret_kids2 (u := .int .i64 65) rfl rfl rfl (HX2.out.put _ _)) rfl (HNO.out 65 W2 HE.out.1 HE.out.2 HB2.out HX2.out)
      | true =>
        obtain ⟨ht, hrk⟩ : True ∧ readK b = some (⟨ps, keysOf F⟩, []) := by
          rcases hcase with ⟨_, h, _⟩ | ⟨t, h, ht⟩
          · cases h
          · have : t = [] := by simpa using ht.symm
            rw [this] at h
            exact ⟨trivial, h⟩
        have hbk := readK_back _ _ _ hrk
        have hfits := readK_fits hrk
        have hel : (encK ⟨ps, keysOf F⟩).length = b.length := by rw [← hbk.1, List.append_nil]
        rw [encK_length] at hel
        have hsz1 : ps.length * 8 ≤ 140737488355328 := by have := hbk.2.1; simp at this; omega
        have hsz2 : F.length * 24 ≤ 140737488420864 := by have := hbk.2.1; have h2 := hbk.2.2; rw [show (⟨ps, keysOf F⟩ : Kd).ks.length = F.length from keysOf_length F] at h2; simp at this h2; omega
        have HCK := check_any (z := z) (w := W2) (v := .agg #[.slice ap ps.length cp, .slice ak F.length ck]) (ps := ps) (L := F) ⟨_, _, rfl, HNI2.out.ints hsz1 (fun p hp => by have := hfits p hp; omega), HNK2.out.at hsz2⟩
        rw [hrk] at HDK
        clear hcase ht hrk hbk hfits hel
        by_cases hc : checkK z (kd ps F) = 0
        · have HE : Hid (decErr z b = 0 ∧ decD z b = kd ps F) := by
            have hd : decK z b = some (kd ps F) := by
              rw [HDK.out]
              show (if checkK z (kd ps F) = 0 then some (kd ps F) else none) = _
              rw [if_pos hc]
            have h2 : decD z b = kd ps F := by unfold decD; rw [hd]; rfl
            exact ⟨decErr_ok.2 (by rw [h2]; exact hd), h2⟩
          rw [hc] at HCK
          clear hc HDK HBAD HSZ HNO
          go_wp2_with fail
          refine HCK.mono ?_
          rintro r w3 ⟨rfl, hb3⟩
          have HB3 : Hid (Below w.heap.size w w3) := HBW.out.trans ((HB2.out.trans (hb3.mono HB2.out.size)).mono HBW.out.size)
          have HX3 : Hid (KBox w3 w.heap.size (.slice none 0 0) (.slice none 0 0)) := HX2.out.here hb3
          have HNI3 : Hid (NewInts W.heap.size w3 (.slice ap ps.length cp) ps) := HNI2.out.here hb3
          have HNK3 : Hid (NewKeys W.heap.size w3 (.slice ak F.length ck) F) := HNK2.out.here hb3
          obtain ⟨m0, m1⟩ := (HY2.out.here hb3).cells
          obtain ⟨n0, n1⟩ := HX3.out.cells
          obtain ⟨g0, g1⟩ := HX3.out.open
          clear HCK hb3 x0 x1 f0 f1 y0 y1
          have HLO2 : Hid (Keep 26 w.heap.size w3 ((w3.setCell ⟨w.heap.size, 0, none⟩ (.slice ap ps.length cp)).setCell ⟨w.heap.size, 1, none⟩ (.slice ak F.length ck))) :=
            (keep_set HX3.out.row (Nat.le_refl _) _).trans (keep_set (HX3.out.set0 _).row (Nat.le_refl _) _)
          go_wp2
          refine bodyPost_ret (ret_kids2 (u := .int .i64 0) rfl rfl rfl (HX3.out.put _ _)) rfl ⟨_, by rw [HE.out.1]; rfl, ?_, HB3.out.trans HLO2.out.low⟩
          rw [HE.out.2]
          exact NewKids.keep ⟨_, _, F, rfl, HNI3.out.mono HBW.out.size, HNK3.out.mono HBW.out.size, rfl⟩ HLO2.out (by decide) (by decide) (by decide)
        · have hcz : ((checkK z (kd ps F) : Int) != 0) = true := by simp; omega
          have HE : Hid (decErr z b = 65 ∧ decD z b = ⟨[], []⟩) := by
            refine HBAD.out ?_
            rw [HDK.out]
            show (if checkK z (kd ps F) = 0 then some (kd ps F) else none) = _
            rw [if_neg hc]
          clear hc HDK HBAD HSZ
          go_wp2_with fail
          refine HCK.mono ?_
          rintro r w3 ⟨rfl, hb3⟩
          have HB3 : Hid (Below W.heap.size W w3) := HB2.out.trans (hb3.mono HB2.out.size)
          have HX3 : Hid (KBox w3 w.heap.size (.slice none 0 0) (.slice none 0 0)) := HX2.out.here hb3
          obtain ⟨n0, n1⟩ := HX3.out.cells
          obtain ⟨g0, g1⟩ := HX3.out.open
          clear HCK hb3 x0 x1 f0 f1 y0 y1
          go_wp2
          exact bodyPost_ret (ret_kids2 (u := .int .i64 65) rfl rfl rfl (HX3.out.put _ _)) rfl (HNO.out 65 w3 HE.out.1 HE.out.2 HB3.out HX3.out)
  · have HRO' : Hid (∀ w, Calls Try.prog 39 #[.int .i64 z] w fun r w' => r = .returned (.int .i64 0) ∧ w' = w) := by
      intro w; have := HRO.out w; rw [if_neg hz] at this; exact this
    have HE : Hid (decErr z b = 1 ∧ decD z b = ⟨[], []⟩) := by
      have hd0 : decK z b = none := by unfold decK; rw [if_neg (by rintro ⟨h, _⟩; exact hz h)]
      unfold decErr decD; rw [Hid, hd0, if_pos hz]; exact ⟨rfl, rfl⟩
    clear hz HRO
    go_enter Try.func16, Try.ntmps16
    go_upto_region 1 with fail
    rw [← hW]
    clear hW
    go_wp2_with (go_at_call 39; refine (HRO'.out _).mono ?_; rintro r w5 ⟨rfl, hw5⟩; obtain rfl := hw5.symm)
    exact bodyPost_ret (ret_kids2 (u := .int .i64 1) rfl rfl rfl (HX.out.put _ _)) rfl (HNO.out 1 W HE.out.1 HE.out.2 (Below.refl _ _) HX.out)
end Go.Proofs.Ytaehchijeinloaa
