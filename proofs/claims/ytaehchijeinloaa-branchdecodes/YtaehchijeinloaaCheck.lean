/- Check. -/
import Derived.Test.YtaehchijeinloaaSorts
namespace Go.Proofs.Ytaehchijeinloaa
open Go.RowKit

theorem sized_nat {z : Int} (hz : Sized z) : ∃ s : Nat, z = (s : Int) ∧ s ≤ 4096 ∧ 512 ≤ s := ⟨z.toNat, by rcases hz with rfl | rfl | rfl | rfl <;> decide⟩
set_option maxHeartbeats 800000 in
set_option maxRecDepth 100000 in
/-- The closure that tells a key that may not be. -/
theorem badKey_any {w : World} {u : Value} {k : Key} {z : Int} {b : Nat} (hu : KeyAt w u k) (hz : Sized z) (hc : w.cell? ⟨b, 0, none⟩ = some (.int .i64 z)) :
    Calls Try.prog 51 #[u, .pointer (some ⟨b, 0, none⟩)] w fun r w' => r = .returned (.bool (!decide (1 ≤ k.length ∧ k.length ≤ z.toNat / 16))) ∧ w' = w := by
  have hs := hu.short
  obtain ⟨a, c, rfl⟩ := hu.in.form
  obtain ⟨s, rfl, hs1, hs2⟩ := sized_nat hz
  rw [Int.toNat_natCast]
  have hd1 : (s : Int).tdiv 16 = ((s / 16 : Nat) : Int) := by rw [Int.tdiv_eq_ediv_of_nonneg (by omega)]; omega
  clear hu hz
  by_cases h0 : k.length = 0
  · have h0z : ((k.length : Int) == 0) = true := by simp [h0]
    have HR : Hid ((!decide (1 ≤ k.length ∧ k.length ≤ s / 16)) = true) := by simp [Hid, h0]
    clear h0
    go_enter Try.func51, Try.ntmps51
    go_wp2
    go_ret
    exact ⟨ret_bool HR.out.symm, rfl⟩
  · have h0z : ((k.length : Int) == 0) = false := by rw [beq_eq_false_iff_ne]; omega
    by_cases h1 : s / 16 < k.length
    · have h1z : (s : Int) / 16 < (k.length : Int) := by omega
      have HR : Hid ((!decide (1 ≤ k.length ∧ k.length ≤ s / 16)) = true) := by simp [Hid]; omega
      clear h0
      go_enter Try.func51, Try.ntmps51
      go_wp2
      go_ret
      exact ⟨ret_bool HR.out.symm, rfl⟩
    · have h1z : ¬ (s : Int) / 16 < (k.length : Int) := by omega
      have HR : Hid ((!decide (1 ≤ k.length ∧ k.length ≤ s / 16)) = false) := by simp [Hid]; omega
      clear h0
      go_enter Try.func51, Try.ntmps51
      go_wp2
      go_ret
      exact ⟨ret_bool (by have := HR.out; simp at this ⊢; omega), rfl⟩

set_option maxHeartbeats 800000 in
set_option maxRecDepth 100000 in
theorem index_any {w : World} {v : Value} {L : List Kc} {z : Int} {b : Nat} (h : KeysAt w.heap.size w v L) (hz : Sized z) (hc : w.cell? ⟨b, 0, none⟩ = some (.int .i64 z)) :
    Calls Try.prog 62 #[v, .func (.func 51) #[] #[.pointer (some ⟨b, 0, none⟩)]] w fun r w' => (∃ n : Int, r = .returned (.int .i64 n) ∧ decide (0 ≤ n) = !keysOk z.toNat (keysOf L)) ∧ w' = w := by
  have hs := h.short
  obtain ⟨a, c, rfl⟩ := h.form
  have HK : Hid (KeysAt w.heap.size w (.slice a L.length c) L) := h
  have HC : Hid (∀ u k, KeyAt w u k → Calls Try.prog 51 #[u, .pointer (some ⟨b, 0, none⟩)] w fun r w' => r = .returned (.bool (!decide (1 ≤ k.length ∧ k.length ≤ z.toNat / 16))) ∧ w' = w) := fun u k hu => badKey_any hu hz hc
  clear h hc
  go_enter Try.func62, Try.ntmps62
  go_wp2
  go_loopw [8] (fun i wx => ∃ k : Nat, k ≤ L.length ∧ i = .int .i64 k ∧ (∀ x ∈ (keysOf L).take k, 1 ≤ x.length ∧ x.length ≤ z.toNat / 16) ∧ wx = w) (fun i _ => L.length - (intOf i).toNat)
  case atStart => exact ⟨0, by omega, rfl, by simp, rfl⟩
  case round =>
    obtain ⟨k, hk, rfl, ha, rfl⟩ := hrel
    have HA : Hid (∀ x ∈ (keysOf L).take k, 1 ≤ x.length ∧ x.length ≤ z.toNat / 16) := ha
    clear ha
    by_cases hlt : k < L.length
    · have hzl : (k : Int) < (L.length : Int) := by omega
      obtain ⟨e, he⟩ : ∃ e, L[k]? = some e := ⟨_, List.getElem?_eq_getElem hlt⟩
      obtain ⟨g, off, _, e1, hcell⟩ := HK.out.cell k e he
      cases e1
      have HE := HC.out e.v e.k ((HK.out.ok e (List.mem_of_getElem? he)).at (Nat.le_refl _))
      have HEK : Hid ((keysOf L)[k]? = some e.k) := keysOf_get he
      clear he
      by_cases hb : 1 ≤ e.k.length ∧ e.k.length ≤ z.toNat / 16
      · rw [decide_eq_true hb] at HE
        have HN : Hid (∀ x ∈ (keysOf L).take (k + 1), 1 ≤ x.length ∧ x.length ≤ z.toNat / 16) := fun x hx => by
          rw [List.take_add_one, HEK.out] at hx
          rcases List.mem_append.1 hx with h | h
          · exact HA.out x h
          · simp at h; rw [h]; exact hb
        clear hb
        go_wp2_with (go_at_call 51; refine HE.mono ?_; rintro r w' ⟨rfl, rfl⟩)
        exact ⟨⟨k + 1, by omega, by go_num, HN.out, by first | trivial | rfl⟩, by simp [intOf]; omega⟩
      · rw [decide_eq_false hb] at HE
        have HR : Hid (keysOk z.toNat (keysOf L) = false) := by
          rw [Hid, ← Bool.not_eq_true, keys_iff]
          intro h
          exact hb (h e.k (List.mem_of_getElem? HEK.out))
        clear hb
        go_wp2_with (go_at_call 51; refine HE.mono ?_; rintro r w' ⟨rfl, rfl⟩)
        go_ret
        exact ⟨⟨_, rfl, by rw [HR.out]; simp⟩, rfl⟩
    · have hzl : ¬ (k : Int) < (L.length : Int) := by omega
      have HR : Hid (keysOk z.toNat (keysOf L) = true) := by
        rw [Hid, keys_iff]
        have := HA.out
        rw [List.take_of_length_le (by rw [keysOf_length]; omega)] at this
        exact this
      go_wp2
      go_ret
      exact ⟨⟨_, rfl, by rw [HR.out]; rfl⟩, rfl⟩

set_option maxHeartbeats 800000 in
set_option maxRecDepth 100000 in
theorem contains_any {w : World} {v : Value} {L : List Kc} {z : Int} {b : Nat} (h : KeysAt w.heap.size w v L) (hz : Sized z) (hc : w.cell? ⟨b, 0, none⟩ = some (.int .i64 z)) :
    Calls Try.prog 50 #[v, .func (.func 51) #[] #[.pointer (some ⟨b, 0, none⟩)]] w fun r w' => r = .returned (.bool (!keysOk z.toNat (keysOf L))) ∧ w' = w := by
  have HI := index_any h hz hc
  obtain ⟨a, c, rfl⟩ := h.form
  clear h hc
  go_enter Try.func50, Try.ntmps50
  go_wp2_with fail
  refine HI.mono ?_
  rintro r w' ⟨⟨n, rfl, hn⟩, rfl⟩
  have HN : Hid (decide (0 ≤ n) = !keysOk z.toNat (keysOf L)) := hn
  clear hn HI
  go_wp2
  go_ret
  exact ⟨ret_bool HN.out, rfl⟩

theorem checkK_sized {z : Int} {d : Kd} (hz : Sized z) : checkK z d = if d.ps.length < 2 ∨ d.fit = false ∨ pagesOk d.ps = false then 61 else if keysOk z.toNat d.ks = false then 62 else if riseK d.ks = false then 63 else if z.toNat - 32 < bytesK d then 64 else 0 := by
  unfold checkK; rw [if_neg (by simpa using hz)]
theorem nodup_bound : ∀ (n : Nat) (l : List Nat), l.Nodup → (∀ x ∈ l, x < n) → l.length ≤ n
  | 0, l, _, h => by
    cases l with
    | nil => simp
    | cons a r => exact absurd (h a (by simp)) (by omega)
  | n + 1, l, hn, h => by
    by_cases hm : n ∈ l
    · have h1 := nodup_bound n (l.erase n) (hn.erase n) fun x hx => by
        have h2 := (hn.mem_erase_iff).1 hx
        have := h x h2.2
        omega
      rw [List.length_erase_of_mem hm] at h1
      omega
    · have := nodup_bound n l hn fun x hx => by
        have h2 := h x hx
        have : x ≠ n := fun e => hm (e ▸ hx)
        omega
      omega
/-- A number of pages that may be, and keys that may be: their bytes are few. -/
theorem pages_few {ps : List Int} (h : pagesOk ps = true) : ps.length ≤ 65536 := by
  obtain ⟨h1, h2⟩ := pages_iff.1 h
  have hn : (ps.map Int.toNat).Nodup := by
    rw [List.Nodup, List.pairwise_map]
    refine List.Pairwise.imp_of_mem ?_ h2
    intro a b ha hb hne e
    have := h1 a ha
    have := h1 b hb
    omega
  have hs : ∀ x ∈ ps.map Int.toNat, x ∈ List.range 65536 := fun x hx => by
    obtain ⟨p, hp, rfl⟩ := List.mem_map.1 hx
    have := h1 p hp
    rw [List.mem_range]; omega
  have := nodup_bound 65536 _ hn fun x hx => List.mem_range.1 (hs x hx)
  simpa using this
theorem bytes_few {ks : List Key} {n : Nat} (h : ∀ k ∈ ks, k.length ≤ n) : bytesL ks ≤ ks.length * (2 + n) := by
  induction ks with
  | nil => simp [bytesL]
  | cons k ks ih =>
    have h1 := ih fun x hx => h x (by simp [hx])
    have h2 := h k (by simp)
    rw [bytesL_cons, List.length_cons, Nat.add_mul]
    omega

set_option maxHeartbeats 1600000 in
set_option maxRecDepth 100000 in
theorem check_any {w : World} {v : Value} {ps : List Int} {L : List Kc} {z : Int} (h : KidsAt w.heap.size w v ps L) :
    Calls Try.prog 25 #[.int .i64 z, v] w fun r w' => r = .returned (.int .i64 (checkK z (kd ps L) : Nat)) ∧ Below w.heap.size w w' := by
  obtain ⟨vp, vk, rfl, h1, h2⟩ := h.is
  obtain ⟨a1, c1, rfl⟩ := h1.form
  obtain ⟨a2, c2, rfl⟩ := h2.form
  have hs1 := h1.short
  have hs2 := h2.short
  have HRO : Hid (∀ w, Calls Try.prog 39 #[.int .i64 z] w fun r w' => r = .returned (.int .i64 (if Sized z then z - 32 else 0)) ∧ w' = w) := fun w => roomOf_any w z
  obtain ⟨W, hW⟩ : ∃ W, W = (w.alloc (.cells #[.int .i64 z] 3)).alloc (.cells #[.slice a1 ps.length c1, .slice a2 L.length c2] 26) := ⟨_, rfl⟩
  have HBW : Hid (Below w.heap.size w W) := by rw [hW]; exact (below_new w _).alloc (by simp) _
  have HZ : Hid (W.heap[w.heap.size]? = some (.cells #[.int .i64 z] 3 (0, 0))) := by
    rw [Hid, hW, (below_new (w.alloc (.cells #[.int .i64 z] 3)) _).block w.heap.size (by simp)]
    exact heap_alloc_last _ _
  have HX : Hid (KBox W (w.heap.size + 1) (.slice a1 ps.length c1) (.slice a2 L.length c2)) := by
    rw [hW]
    have := KBox.new (w.alloc (.cells #[.int .i64 z] 3)) (.slice a1 ps.length c1) (.slice a2 L.length c2)
    show KBox _ _ _ _
    simpa using this
  have HKI : Hid (∀ W', Below W.heap.size W W' → KidsAt W'.heap.size W' (.agg #[.slice a1 ps.length c1, .slice a2 L.length c2]) ps L) := fun W' hb => (KidsAt.here ⟨_, _, rfl, h1, h2⟩ HBW.out).here hb
  have HC0 : Hid (∀ W', Below W.heap.size W W' → W'.cell? ⟨w.heap.size, 0, none⟩ = some (.int .i64 z) ∧ W'.cell? ⟨w.heap.size + 1, 0, none⟩ = some (.slice a1 ps.length c1) ∧ W'.cell? ⟨w.heap.size + 1, 1, none⟩ = some (.slice a2 L.length c2)) := fun W' hb => by
    obtain ⟨x0, x1⟩ := (HX.out.here hb).cells
    refine ⟨?_, x0, x1⟩
    rw [hb.cell (Array.getElem?_eq_some_iff.1 HZ.out).1, row_cell HZ.out]
    rfl
  clear h h1 h2
  by_cases hz : Sized z
  · have hzz := sized_le hz
    have hzn : (z - 32 == 0) = false := by rw [beq_eq_false_iff_ne]; omega
    have HCK : Hid (checkK z (kd ps L) = _) := checkK_sized (d := kd ps L) hz
    have HRO' : Hid (∀ w, Calls Try.prog 39 #[.int .i64 z] w fun r w' => r = .returned (.int .i64 (z - 32)) ∧ w' = w) := by
      intro w; have := HRO.out w; rw [if_pos hz] at this; exact this
    have HFI : Hid (∀ W', Below W.heap.size W W' → Calls Try.prog 43 #[.agg #[.slice a1 ps.length c1, .slice a2 L.length c2]] W' fun r w' => r = .returned (.bool (kd ps L).fit) ∧ Below W'.heap.size W' w') := fun W' hb => fit_any (HKI.out W' hb)
    have HNU : Hid (∀ W', Below W.heap.size W W' → Calls Try.prog 49 #[.slice a1 ps.length c1] W' fun r w' => r = .returned (.bool (pagesOk ps)) ∧ Below W'.heap.size W' w') := fun W' hb => by
      obtain ⟨vp, vk, e, h1, h2⟩ := (HKI.out W' hb).is
      cases e
      exact numbered_any h1
    have HCF : Hid (∀ W', Below W.heap.size W W' → Calls Try.prog 50 #[.slice a2 L.length c2, .func (.func 51) #[] #[.pointer (some ⟨w.heap.size, 0, none⟩)]] W' fun r w' => r = .returned (.bool (!keysOk z.toNat (keysOf L))) ∧ w' = W') := fun W' hb => by
      obtain ⟨vp, vk, e, h1, h2⟩ := (HKI.out W' hb).is
      cases e
      exact contains_any h2 hz (HC0.out W' hb).1
    have HRI : Hid (∀ W', Below W.heap.size W W' → Calls Try.prog 52 #[.slice a2 L.length c2] W' fun r w' => r = .returned (.bool (riseK (keysOf L))) ∧ Below W'.heap.size W' w') := fun W' hb => by
      obtain ⟨vp, vk, e, h1, h2⟩ := (HKI.out W' hb).is
      cases e
      exact rise_any h2
    have HBY : Hid (∀ W', Below W.heap.size W W' → Calls Try.prog 28 #[.agg #[.slice a1 ps.length c1, .slice a2 L.length c2]] W' fun r w' => r = .returned (.int .i64 (wrap64 (bytesK (kd ps L)))) ∧ Below W'.heap.size W' w') := fun W' hb => bytes_any (HKI.out W' hb)
    obtain ⟨k0, k1, k2⟩ := HC0.out W (Below.refl _ _)
    clear HRO
    by_cases h2 : ps.length < 2
    · have h2z : (ps.length : Int) < 2 := by omega
      have HR : Hid (checkK z (kd ps L) = 61) := by rw [Hid, HCK.out, if_pos (.inl h2)]
      clear HCK hz
      go_enter Try.func25, Try.ntmps25
      go_wp2_with fail
      rw [← hW]
      clear hW
      refine (HRO'.out _).mono ?_
      rintro r w1 ⟨rfl, rfl⟩
      go_wp2
      go_ret
      exact ⟨by rw [HR.out]; rfl, HBW.out⟩
    · have h2z : ¬ (ps.length : Int) < 2 := by omega
      cases hf : (kd ps L).fit with
      | false =>
        have HR : Hid (checkK z (kd ps L) = 61) := by rw [Hid, HCK.out, if_pos (.inr (.inl hf))]
        rw [hf] at HFI
        clear HCK hz hf
        go_enter Try.func25, Try.ntmps25
        go_wp2_with fail
        rw [← hW]
        clear hW
        refine (HRO'.out _).mono ?_
        rintro r w1 ⟨rfl, rfl⟩
        go_wp2_with fail
        refine (HFI.out _ (Below.refl _ _)).mono ?_
        rintro r w2 ⟨rfl, hb2⟩
        have HB2 : Hid (Below w.heap.size w w2) := HBW.out.trans (hb2.mono HBW.out.size)
        clear hb2
        go_wp2
        go_ret
        exact ⟨by rw [HR.out]; rfl, HB2.out⟩
      | true =>
        rw [hf] at HFI
        cases hp : pagesOk ps with
        | false =>
          have HR : Hid (checkK z (kd ps L) = 61) := by rw [Hid, HCK.out, if_pos (.inr (.inr hp))]
          rw [hp] at HNU
          clear HCK hz hf hp
          go_enter Try.func25, Try.ntmps25
          go_wp2_with fail
          rw [← hW]
          clear hW
          refine (HRO'.out _).mono ?_
          rintro r w1 ⟨rfl, rfl⟩
          go_wp2_with fail
          refine (HFI.out _ (Below.refl _ _)).mono ?_
          rintro r w2 ⟨rfl, hb2⟩
          have HB2 : Hid (Below w1.heap.size w1 w2) := hb2
          obtain ⟨m0, m1, m2⟩ := HC0.out w2 hb2
          clear hb2
          go_wp2_with fail
          refine (HNU.out _ HB2.out).mono ?_
          rintro r w3 ⟨rfl, hb3⟩
          have HB3 : Hid (Below w.heap.size w w3) := HBW.out.trans ((HB2.out.trans (hb3.mono HB2.out.size)).mono HBW.out.size)
          clear hb3
          go_wp2
          go_ret
          exact ⟨by rw [HR.out]; rfl, HB3.out⟩
        | true =>
          rw [hp] at HNU
          have HCK2 : Hid (checkK z (kd ps L) = if keysOk z.toNat (keysOf L) = false then 62 else if riseK (keysOf L) = false then 63 else if z.toNat - 32 < bytesK (kd ps L) then 64 else 0) := by
            rw [Hid, HCK.out, if_neg (by rw [hf]; show ¬ (ps.length < 2 ∨ true = false ∨ pagesOk ps = false); rw [hp]; simp; omega)]
            rfl
          have hlp := pages_few hp
          have hlf := (fit_iff.1 hf).2
          have hlL : L.length ≤ 65536 := by
            have e1 : (kd ps L).ks.length = L.length := keysOf_length L
            have e2 : (kd ps L).ps = ps := rfl
            rw [e1, e2] at hlf
            omega
          have HNB : Hid (keysOk z.toNat (keysOf L) = true → wrap64 (bytesK (kd ps L)) = bytesK (kd ps L)) := fun hko => by
            have := bytes_few (ks := keysOf L) (n := 256) fun k hk => by have := (keys_iff.1 hko k hk).2; omega
            rw [keysOf_length] at this
            have hb : bytesK (kd ps L) ≤ 1000000000 := by
              show 2 + 4 * ps.length + bytesL (keysOf L) ≤ _
              omega
            exact wrap_of _ (by omega) (by omega)
          clear HCK hf hp hlf hlL
          go_enter Try.func25, Try.ntmps25
          go_wp2_with fail
          rw [← hW]
          clear hW
          refine (HRO'.out _).mono ?_
          rintro r w1 ⟨rfl, rfl⟩
          go_wp2_with fail
          refine (HFI.out _ (Below.refl _ _)).mono ?_
          rintro r w2 ⟨rfl, hb2⟩
          have HB2 : Hid (Below w1.heap.size w1 w2) := hb2
          obtain ⟨m0, m1, m2⟩ := HC0.out w2 hb2
          clear hb2
          go_wp2_with fail
          refine (HNU.out _ HB2.out).mono ?_
          rintro r w3 ⟨rfl, hb3⟩
          have HB3 : Hid (Below w1.heap.size w1 w3) := HB2.out.trans (hb3.mono HB2.out.size)
          obtain ⟨n0, n1, n2⟩ := HC0.out w3 HB3.out
          clear hb3 m0 m1 m2 k0 k1 k2
          go_wp2_with fail
          refine (HCF.out _ HB3.out).mono ?_
          rintro r w4 ⟨rfl, rfl⟩
          cases hk : keysOk z.toNat (keysOf L) with
          | false =>
            have HR : Hid (checkK z (kd ps L) = 62) := by rw [Hid, HCK2.out, if_pos hk]
            clear hk HCK2 hz HCF HNB
            simp only [Bool.not_false]
            go_wp2
            go_ret
            exact ⟨by rw [HR.out]; rfl, HBW.out.trans (HB3.out.mono HBW.out.size)⟩
          | true =>
            have HNB2 : Hid (wrap64 (bytesK (kd ps L)) = bytesK (kd ps L)) := HNB.out hk
            have HCK3 : Hid (checkK z (kd ps L) = if riseK (keysOf L) = false then 63 else if z.toNat - 32 < bytesK (kd ps L) then 64 else 0) := by rw [Hid, HCK2.out, hk]; simp
            clear hk HCK2 hz HCF HNB
            simp only [Bool.not_true]
            go_wp2_with fail
            refine (HRI.out _ HB3.out).mono ?_
            rintro r w5 ⟨rfl, hb5⟩
            have HB5 : Hid (Below w1.heap.size w1 w5) := HB3.out.trans (hb5.mono HB3.out.size)
            obtain ⟨m0, m1, m2⟩ := HC0.out w5 HB5.out
            clear hb5 n0 n1 n2
            cases hr : riseK (keysOf L) with
            | false =>
              have HR : Hid (checkK z (kd ps L) = 63) := by rw [Hid, HCK3.out, if_pos hr]
              clear hr HCK3 HRI
              go_wp2
              go_ret
              exact ⟨by rw [HR.out]; rfl, HBW.out.trans (HB5.out.mono HBW.out.size)⟩
            | true =>
              have HCK4 : Hid (checkK z (kd ps L) = if z.toNat - 32 < bytesK (kd ps L) then 64 else 0) := by rw [Hid, HCK3.out, hr]; simp
              clear hr HCK3 HRI
              have HBY2 : Hid (∀ W', Below w1.heap.size w1 W' → Calls Try.prog 28 #[.agg #[.slice a1 ps.length c1, .slice a2 L.length c2]] W' fun r w' => r = .returned (.int .i64 (bytesK (kd ps L) : Nat)) ∧ Below W'.heap.size W' w') := fun W' hb => by
                have := HBY.out W' hb
                rw [HNB2.out] at this
                exact this
              clear HBY HNB2
              generalize bytesK (kd ps L) = N at *
              go_wp2_with fail
              go_cut [35] (fun s35 wx => s35 = .bool (decide (z - 32 < (N : Int))) ∧ Below w1.heap.size w1 wx)
              case first =>
                go_region_held_law (fun W' => W'.cell? ⟨w.heap.size, 0, none⟩ = some (.int .i64 z) ∧ W'.cell? ⟨w.heap.size + 1, 0, none⟩ = some (.slice a1 ps.length c1) ∧ W'.cell? ⟨w.heap.size + 1, 1, none⟩ = some (.slice a2 L.length c2)) (first | go_keep | (refine ⟨?_, ?_, ?_⟩ <;> assumption))
                  (first
                    | (go_at_call 28
                       refine (HBY2.out _ (by first | exact HB5.out.drew | exact HB5.out)).mono ?_
                       rintro r w6 ⟨rfl, hb6⟩
                       have HB6 : Hid (Below w1.heap.size w1 w6) := by
                         first
                           | exact HB5.out.trans (hb6.mono HB5.out.size)
                           | exact HB5.out.drew.trans (hb6.mono HB5.out.size)
                       obtain ⟨p0, p1, p2⟩ := HC0.out w6 HB6.out
                       clear hb6)
                    | (go_at_call 39
                       refine (HRO'.out _).mono ?_
                       rintro r w7 ⟨rfl, rfl⟩))
                all_goals
                  go_wp2_with fail
                  go_meet
                  exact ⟨rfl, HB6.out⟩
              case rest =>
                obtain ⟨rfl, hbc⟩ := hcut
                have HBC : Hid (Below w.heap.size w wc) := HBW.out.trans (hbc.mono HBW.out.size)
                clear hbc
                by_cases hN : z - 32 < (N : Int)
                · have HR : Hid (checkK z (kd ps L) = 64) := by rw [Hid, HCK4.out, if_pos (by omega)]
                  clear HCK4
                  go_wp2
                  go_ret
                  exact ⟨by rw [HR.out]; rfl, HBC.out⟩
                · have HR : Hid (checkK z (kd ps L) = 0) := by rw [Hid, HCK4.out, if_neg (by omega)]
                  clear HCK4
                  go_wp2
                  go_ret
                  exact ⟨by rw [HR.out]; rfl, HBC.out⟩
  · have HRO' : Hid (∀ w, Calls Try.prog 39 #[.int .i64 z] w fun r w' => r = .returned (.int .i64 0) ∧ w' = w) := by
      intro w; have := HRO.out w; rw [if_neg hz] at this; exact this
    have HR : Hid (checkK z (kd ps L) = 1) := by unfold Hid checkK; rw [if_pos hz]
    clear hz HRO
    go_enter Try.func25, Try.ntmps25
    go_wp2_with fail
    rw [← hW]
    clear hW
    refine (HRO'.out _).mono ?_
    rintro r w1 ⟨rfl, rfl⟩
    go_wp2
    go_ret
    exact ⟨by rw [HR.out]; rfl, HBW.out⟩
end Go.Proofs.Ytaehchijeinloaa
