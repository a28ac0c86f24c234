/- Bytes as strings; Same. -/
import Derived.Test.YtaehchijeinloaaDec
import Derived.Laws.IdiomStrings
namespace Go.Proofs.Ytaehchijeinloaa
open Go.RowKit

/-- Bytes as a string. -/
def strB (bs : List UInt8) : ByteArray := ⟨bs.toArray⟩
theorem strB_nums (bs : List UInt8) : strOfNums (bs.map fun c => (c.toNat : Int)) = strB bs := by
  have e : (bs.map fun c => (c.toNat : Int)).map (fun n => UInt8.ofNat n.toNat) = bs := by
    rw [List.map_map]
    refine (List.map_congr_left (g := id) fun c _ => ?_).trans (List.map_id _)
    simp
  rw [strOfNums, e]
  rfl
theorem strB_inj {a b : List UInt8} (h : strB a = strB b) : a = b := by
  have := congrArg (fun x => x.data.toList) h
  simpa [strB] using this
theorem strB_eq (a b : List UInt8) : ((strB a).toList == (strB b).toList) = decide (a = b) := by
  by_cases h : a = b
  · subst h; simp
  · rw [beq_eq_false_iff_ne.2 ?_]
    · simp [h]
    · rw [ByteArray.toList_eq, ByteArray.toList_eq]
      intro e
      exact h (by simpa [strB] using e)
theorem conv_any {B : Nat} {w : World} {a : Option Addr} {bs : List UInt8} (n cap : Nat) (hb : BytesAt B w a bs) (hn : bs.length = n) : (convert 27 9 (.slice a n cap)).run Try.prog w = .ok (.string (strB bs)) w := by
  cases a with
  | none =>
    have h0 : bs = [] := by
      cases bs with
      | nil => rfl
      | cons b r => obtain ⟨_, _, e, _⟩ := hb 0 b rfl; cases e
    subst h0
    exact run_convert_bytes_nil w 27 5 Try.underlying27 Try.underlying5 n cap 9 Try.underlying9
  | some ad =>
    have hl : (loadCells ad n).run Try.prog w = .ok ((bs.map fun c => (c.toNat : Int)).map (Value.int .u8)).toArray w := by
      have := run_loadCells_list (P := Try.prog) w ad ((bs.map fun c => (c.toNat : Int)).map (Value.int .u8)) (fun j v hj => by
        rw [List.map_map, List.getElem?_map] at hj
        cases e : bs[j]? with
        | none => rw [e] at hj; cases hj
        | some c =>
          rw [e] at hj
          obtain ⟨g, off, e1, _, hc⟩ := hb j c e
          cases e1
          rw [add_at, hc]
          simpa using hj)
      simpa [hn] using this
    rw [run_convert_bytes_string w 27 9 5 _ n cap Try.underlying27 Try.underlying5 Try.underlying9, run_bytesToString w _ n cap _ hl, foldl_push_bytes, ← strB_nums]
    simp [strOfNums, ByteArray.empty, ByteArray.emptyWithCapacity]
    rfl
theorem conv_key {w : World} {v : Value} {k : Key} (h : KeyAt w v k) : (convert 27 9 v).run Try.prog w = .ok (.string (strB k)) w := by
  obtain ⟨⟨a, c, rfl, hb, _⟩, _⟩ := h
  exact conv_any _ _ hb rfl

/-- '[]byte(s)': a new row of the string's bytes. -/
theorem bytes_new : ∃ (cap : World → ByteArray → Nat) (row : World → ByteArray → Array Value) (fr : World → ByteArray → Nat × Nat),
    (∀ (W : World) (s : ByteArray), Sem.run Try.prog (convert 9 27 (.string s)) W = .ok (.slice (some ⟨W.heap.size, 0, none⟩) s.size (cap W s)) (W.drew.alloc (.cells (row W s) 5 (fr W s)))) ∧
    (∀ W s, s.size ≤ cap W s) ∧ ∀ W (k : Key) (j : Nat) c, k[j]? = some c → (row W (strB k))[j]? = some (.int .u8 (c.toNat : Int)) := by
  refine ⟨fun W s => grownCap W s.size 0 5, fun W s => bytesRow s (grownCap W s.size 0 5), _, fun W s => run_bytes_of_string W 9 27 5 s Try.underlying9 Try.underlying27 Try.underlying5, fun W s => ?_, fun W k j c hj => ?_⟩
  · exact grownCap_ge _ _ _ _
  · have hl := (List.getElem?_eq_some_iff.1 hj).1
    have e : (strB k).data.toList = k := by simp [strB]
    have e2 : (strB k).data.size = k.length := by simp [strB]
    unfold bytesRow
    rw [Array.getElem?_append_left (by simp [e2]; exact hl), Array.getElem?_map, ← Array.getElem?_toList, e, hj]
    rfl
theorem str_size (k : Key) : (strB k).size = k.length := by simp [strB, ByteArray.size]
/-- A key in a block of its own, whatever stands behind it. -/
theorem key_block {w : World} {b : Nat} {cur : Array Value} {fr : Nat × Nat} {k : Key} (h : w.heap[b]? = some (.cells cur 5 fr)) (hc : ∀ (j : Nat) c, k[j]? = some c → cur[j]? = some (.int .u8 (c.toNat : Int))) (n c : Nat) (hn : k.length = n) (hcap : n ≤ c) (hs : n ≤ 140737488355328) : KeyAt w (.slice (some ⟨b, 0, none⟩) n c) k := by
  subst hn
  refine ⟨⟨_, c, rfl, fun j x hj => ⟨b, 0, rfl, (Array.getElem?_eq_some_iff.1 h).1, ?_⟩, hcap, fun h => by cases h⟩, hs⟩
  rw [Nat.zero_add]
  simp only [World.cell?, h]
  exact hc j x hj

theorem strB_ne (a b : List UInt8) : ((strB a).toList != (strB b).toList) = !decide (a = b) := by rw [bne, strB_eq]

theorem take_eq_succ {α : Type} {a b : List α} {k : Nat} {x : α} (h : a.take k = b.take k) (ha : a[k]? = some x) (hb : b[k]? = some x) : a.take (k + 1) = b.take (k + 1) := by
  rw [List.take_add_one, List.take_add_one, h, ha, hb]
set_option maxHeartbeats 1600000 in
set_option maxRecDepth 100000 in
theorem same_any {w : World} {v u : Value} {ps qs : List Int} {L M : List Kc} (h : KidsAt w.heap.size w v ps L) (hu : KidsAt w.heap.size w u qs M) :
    Calls Try.prog 27 #[v, u] w fun e w' => e = .returned (.bool (decide (kd ps L = kd qs M))) ∧ Below w.heap.size w w' := by
  obtain ⟨vp, vk, rfl, h1, h2⟩ := h.is
  obtain ⟨a1, c1, rfl⟩ := h1.form
  obtain ⟨a2, c2, rfl⟩ := h2.form
  obtain ⟨up, uk, rfl, h3, h4⟩ := hu.is
  obtain ⟨a3, c3, rfl⟩ := h3.form
  obtain ⟨a4, c4, rfl⟩ := h4.form
  have hs1 := h1.short
  have hs2 := h2.short
  have hs3 := h3.short
  have hs4 := h4.short
  obtain ⟨W, hW⟩ : ∃ W, W = (w.alloc (.cells #[.slice a1 ps.length c1, .slice a2 L.length c2] 26)).alloc (.cells #[.slice a3 qs.length c3, .slice a4 M.length c4] 26) := ⟨_, rfl⟩
  have HBW : Hid (Below w.heap.size w W) := by rw [hW]; exact (below_new w _).alloc (by simp) _
  have HX : Hid (KBox W w.heap.size (.slice a1 ps.length c1) (.slice a2 L.length c2)) := by
    rw [hW]; exact (KBox.new w _ _).here (below_new _ _)
  have HY : Hid (KBox W (w.heap.size + 1) (.slice a3 qs.length c3) (.slice a4 M.length c4)) := by
    rw [hW]
    have := KBox.new (w.alloc (.cells #[.slice a1 ps.length c1, .slice a2 L.length c2] 26)) (.slice a3 qs.length c3) (.slice a4 M.length c4)
    show KBox _ _ _ _
    simpa using this
  have HP : Hid (IntsAt W.heap.size W (.slice a1 ps.length c1) ps) := h1.here HBW.out
  have HK : Hid (KeysAt W.heap.size W (.slice a2 L.length c2) L) := h2.here HBW.out
  have HQ : Hid (IntsAt W.heap.size W (.slice a3 qs.length c3) qs) := h3.here HBW.out
  have HM : Hid (KeysAt W.heap.size W (.slice a4 M.length c4) M) := h4.here HBW.out
  clear h hu h1 h2 h3 h4
  obtain ⟨k0, k1⟩ := HX.out.cells
  obtain ⟨l0, l1⟩ := HY.out.cells
  have HNE : Hid (ps ≠ qs ∨ keysOf L ≠ keysOf M → decide (kd ps L = kd qs M) = false) := fun h => by
    rw [decide_eq_false_iff_not]
    intro e
    simp only [kd, Kd.mk.injEq] at e
    rcases h with h | h
    · exact h e.1
    · exact h e.2
  by_cases hl1 : ps.length = qs.length
  · have hz1 : ((ps.length : Int) != (qs.length : Int)) = false := by simp [hl1]
    by_cases hl2 : L.length = M.length
    · have hz2 : ((L.length : Int) != (M.length : Int)) = false := by simp [hl2]
      have HL1 : Hid (ps.length = qs.length) := hl1
      have HL2 : Hid (L.length = M.length) := hl2
      clear hl1 hl2
      go_enter Try.func27, Try.ntmps27
      go_upto_region 1 with fail
      rw [← hW]
      clear hW
      go_wp2_with fail
      go_loopw [5] (fun i wx => ∃ k : Nat, k ≤ ps.length ∧ i = .int .i64 k ∧ ps.take k = qs.take k ∧ Below W.heap.size W wx) (fun i _ => ps.length - (intOf i).toNat)
      case atStart => exact ⟨0, by omega, rfl, rfl, Below.refl _ _⟩
      case round =>
        obtain ⟨k, hk, rfl, heq, hbe⟩ := hrel
        have HEQ : Hid (ps.take k = qs.take k) := heq
        have HBE : Hid (Below W.heap.size W wr) := hbe
        obtain ⟨x0, x1⟩ := (HX.out.here hbe).cells
        obtain ⟨y0, y1⟩ := (HY.out.here hbe).cells
        by_cases hkl : k < ps.length
        · have hkz : (k : Int) < (ps.length : Int) := by omega
          have hkq : (k : Int) < (qs.length : Int) := by have := HL1.out; omega
          obtain ⟨x, hx⟩ : ∃ x, ps[k]? = some x := ⟨_, List.getElem?_eq_getElem hkl⟩
          obtain ⟨y, hy⟩ : ∃ y, qs[k]? = some y := ⟨qs[k]'(by have := HL1.out; omega), List.getElem?_eq_getElem _⟩
          obtain ⟨g, off, _, e1, m0⟩ := (HP.out.here hbe).cell k x hx
          cases e1
          obtain ⟨g', off', _, e1, n0⟩ := (HQ.out.here hbe).cell k y hy
          cases e1
          by_cases hxy : x = y
          · subst hxy
            have HN : Hid (ps.take (k + 1) = qs.take (k + 1)) := take_eq_succ HEQ.out hx hy
            have hxz : (x != x) = false := by simp
            clear heq hbe hx hy
            go_wp2_with fail
            go_quiet (fail)
            go_wp2
            exact ⟨⟨k + 1, by omega, by go_num, HN.out, below_draws HBE.out _⟩, by simp [intOf]; omega⟩
          · have hxz : (x != y) = true := by simp [hxy]
            have HR : Hid (decide (kd ps L = kd qs M) = false) := HNE.out (.inl fun e => by
              rw [e, hy] at hx
              exact hxy (by cases hx; rfl))
            clear heq hbe hx hy hxy
            go_wp2_with fail
            go_quiet (fail)
            go_wp2
            go_ret
            exact ⟨ret_bool (by rw [HR.out]), HBW.out.trans ((below_draws HBE.out _).mono HBW.out.size)⟩
        · have hkz : ¬ (k : Int) < (ps.length : Int) := by omega
          have HPQ : Hid (ps = qs) := by
            have := HEQ.out
            have hl := HL1.out
            rw [List.take_of_length_le (by omega), List.take_of_length_le (by omega)] at this
            exact this
          obtain ⟨w1, hw1⟩ : ∃ w1, w1 = wr := ⟨_, rfl⟩
          rw [← hw1] at HBE x0 x1 y0 y1
          rw [← hw1]
          clear heq hbe hw1
          go_wp2_with fail
          go_loopw [6] (fun i wx => ∃ j : Nat, j ≤ L.length ∧ i = .int .i64 j ∧ (keysOf L).take j = (keysOf M).take j ∧ Below W.heap.size W wx) (fun i _ => L.length - (intOf i).toNat)
          case atStart => exact ⟨0, by omega, rfl, rfl, HBE.out⟩
          case round =>
            obtain ⟨j, hj, rfl, heq, hbe⟩ := hrel
            have HEJ : Hid ((keysOf L).take j = (keysOf M).take j) := heq
            have HBR : Hid (Below W.heap.size W wr) := hbe
            obtain ⟨r0, r1⟩ := (HX.out.here hbe).cells
            obtain ⟨s0, s1⟩ := (HY.out.here hbe).cells
            by_cases hjl : j < L.length
            · have hjz : (j : Int) < (L.length : Int) := by omega
              have hjq : (j : Int) < (M.length : Int) := by have := HL2.out; omega
              obtain ⟨x, hx⟩ : ∃ x, L[j]? = some x := ⟨_, List.getElem?_eq_getElem hjl⟩
              obtain ⟨y, hy⟩ : ∃ y, M[j]? = some y := ⟨M[j]'(by have := HL2.out; omega), List.getElem?_eq_getElem _⟩
              obtain ⟨g, off, _, e1, m0⟩ := (HK.out.here hbe).cell j x hx
              cases e1
              obtain ⟨g', off', _, e1, n0⟩ := (HM.out.here hbe).cell j y hy
              cases e1
              have kx := ((HK.out.here hbe).ok x (List.mem_of_getElem? hx)).at (Nat.le_refl _)
              have ky := ((HM.out.here hbe).ok y (List.mem_of_getElem? hy)).at (Nat.le_refl _)
              have e1 : ∀ q, Sem.run Try.prog (convert 27 9 x.v) (wr.drewN q) = .ok (.string (strB x.k)) (wr.drewN q) := fun q => conv_key (kx.draws q)
              have e2 : ∀ q, Sem.run Try.prog (convert 27 9 y.v) (wr.drewN q) = .ok (.string (strB y.k)) (wr.drewN q) := fun q => conv_key (ky.draws q)
              have s12 := strB_ne x.k y.k
              have s11 := strB_eq x.k y.k
              by_cases hxy : x.k = y.k
              · have HN : Hid ((keysOf L).take (j + 1) = (keysOf M).take (j + 1)) := take_eq_succ HEJ.out (keysOf_get hx) (by rw [hxy]; exact keysOf_get hy)
                rw [decide_eq_true hxy] at s12 s11
                clear heq hbe hx hy kx ky hxy
                generalize strB x.k = S1 at *
                generalize strB y.k = S2 at *
                go_wp2_with fail
                go_quiet (fail)
                go_wp2
                exact ⟨⟨j + 1, by omega, by go_num, HN.out, below_draws HBR.out _⟩, by simp [intOf]; omega⟩
              · have HR : Hid (decide (kd ps L = kd qs M) = false) := HNE.out (.inr fun e => by
                  have h1 := keysOf_get hx
                  rw [e, keysOf_get hy] at h1
                  exact hxy (Option.some.inj h1).symm)
                rw [decide_eq_false hxy] at s12 s11
                clear heq hbe hx hy kx ky hxy
                generalize strB x.k = S1 at *
                generalize strB y.k = S2 at *
                go_wp2_with fail
                go_quiet (fail)
                go_wp2
                go_ret
                exact ⟨ret_bool (by rw [HR.out]), HBW.out.trans ((below_draws HBR.out _).mono HBW.out.size)⟩
            · have hjz : ¬ (j : Int) < (L.length : Int) := by omega
              have HR : Hid (decide (kd ps L = kd qs M) = true) := by
                have h1 := HEJ.out
                have hl := HL2.out
                rw [List.take_of_length_le (by rw [keysOf_length]; omega), List.take_of_length_le (by rw [keysOf_length]; omega)] at h1
                rw [Hid, decide_eq_true_iff]
                simp only [kd, Kd.mk.injEq]
                exact ⟨HPQ.out, h1⟩
              clear heq hbe
              go_wp2
              go_ret
              exact ⟨ret_bool (by rw [HR.out]), HBW.out.trans (HBR.out.mono HBW.out.size)⟩
    · have hz2 : ((L.length : Int) != (M.length : Int)) = true := by simp; omega
      have HR : Hid (decide (kd ps L = kd qs M) = false) := HNE.out (.inr fun e => hl2 (by rw [← keysOf_length, e, keysOf_length]))
      clear hl1 hl2
      go_enter Try.func27, Try.ntmps27
      go_upto_region 1 with fail
      rw [← hW]
      clear hW
      go_wp2
      go_ret
      exact ⟨ret_bool (by rw [HR.out]), HBW.out⟩
  · have hz1 : ((ps.length : Int) != (qs.length : Int)) = true := by simp; omega
    have HR : Hid (decide (kd ps L = kd qs M) = false) := HNE.out (.inl fun e => hl1 (by rw [e]))
    clear hl1
    go_enter Try.func27, Try.ntmps27
    go_upto_region 1 with fail
    rw [← hW]
    clear hW
    go_wp2
    go_ret
    exact ⟨ret_bool (by rw [HR.out]), HBW.out⟩
end Go.Proofs.Ytaehchijeinloaa
