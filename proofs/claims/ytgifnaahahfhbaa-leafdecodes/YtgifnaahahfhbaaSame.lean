/- Bytes as strings; same. -/
import Derived.Test.YtgifnaahahfhbaaDec
import Derived.Laws.IdiomStrings
namespace Go.Proofs.Ytgifnaahahfhbaa
open Go.RowKit

/-- Bytes as a string. -/
def strB (bs : List UInt8) : ByteArray := ⟨bs.toArray⟩
theorem strB_nums (bs : List UInt8) : strOfNums (bs.map fun c => (c.toNat : Int)) = strB bs := by
  have e : (bs.map fun c => (c.toNat : Int)).map (fun n => UInt8.ofNat n.toNat) = bs := by
    rw [List.map_map]
    refine (List.map_congr_left (g := id) fun c _ => ?_).trans (List.map_id _)
    simp
  rw [strOfNums, e]
  rfl
theorem strB_inj {a b : List UInt8} (h : strB a = strB b) : a = b := by
  have := congrArg (fun x => x.data.toList) h
  simpa [strB] using this
theorem strB_eq (a b : List UInt8) : ((strB a).toList == (strB b).toList) = decide (a = b) := by
  by_cases h : a = b
  · subst h; simp
  · rw [beq_eq_false_iff_ne.2 ?_]
    · simp [h]
    · rw [ByteArray.toList_eq, ByteArray.toList_eq]
      intro e
      exact h (by simpa [strB] using e)
theorem conv_any {B : Nat} {w : World} {a : Option Addr} {bs : List UInt8} (n cap : Nat) (hb : BytesAt B w a bs) (hn : bs.length = n) : (convert 39 9 (.slice a n cap)).run Try.prog w = .ok (.string (strB bs)) w := by
  cases a with
  | none =>
    have h0 : bs = [] := by
      cases bs with
      | nil => rfl
      | cons b r => obtain ⟨_, _, e, _⟩ := hb 0 b rfl; cases e
    subst h0
    exact run_convert_bytes_nil w 39 5 Try.underlying39 Try.underlying5 n cap 9 Try.underlying9
  | some ad =>
    have hl : (loadCells ad n).run Try.prog w = .ok ((bs.map fun c => (c.toNat : Int)).map (Value.int .u8)).toArray w := by
      have := run_loadCells_list (P := Try.prog) w ad ((bs.map fun c => (c.toNat : Int)).map (Value.int .u8)) (fun j v hj => by
        rw [List.map_map, List.getElem?_map] at hj
        cases e : bs[j]? with
        | none => rw [e] at hj; cases hj
        | some c =>
          rw [e] at hj
          obtain ⟨g, off, e1, _, hc⟩ := hb j c e
          cases e1
          rw [add_at, hc]
          simpa using hj)
      simpa [hn] using this
    rw [run_convert_bytes_string w 39 9 5 _ n cap Try.underlying39 Try.underlying5 Try.underlying9, run_bytesToString w _ n cap _ hl, foldl_push_bytes, ← strB_nums]
    simp [strOfNums, ByteArray.empty, ByteArray.emptyWithCapacity]
    rfl
theorem conv_key {w : World} {v : Value} {k : Key} (h : KeyAt w v k) : (convert 39 9 v).run Try.prog w = .ok (.string (strB k)) w := by
  obtain ⟨⟨a, c, rfl, hb, _⟩, _⟩ := h
  exact conv_any _ _ hb rfl

/-- '[]byte(s)': a new row of the string's bytes. -/
theorem bytes_new : ∃ (cap : World → ByteArray → Nat) (row : World → ByteArray → Array Value) (fr : World → ByteArray → Nat × Nat),
    (∀ (W : World) (s : ByteArray), Sem.run Try.prog (convert 9 39 (.string s)) W = .ok (.slice (some ⟨W.heap.size, 0, none⟩) s.size (cap W s)) (W.drew.alloc (.cells (row W s) 5 (fr W s)))) ∧
    (∀ W s, s.size ≤ cap W s) ∧ ∀ W (k : Key) (j : Nat) c, k[j]? = some c → (row W (strB k))[j]? = some (.int .u8 (c.toNat : Int)) := by
  refine ⟨fun W s => grownCap W s.size 0 5, fun W s => bytesRow s (grownCap W s.size 0 5), _, fun W s => run_bytes_of_string W 9 39 5 s Try.underlying9 Try.underlying39 Try.underlying5, fun W s => ?_, fun W k j c hj => ?_⟩
  · exact grownCap_ge _ _ _ _
  · have hl := (List.getElem?_eq_some_iff.1 hj).1
    have e : (strB k).data.toList = k := by simp [strB]
    have e2 : (strB k).data.size = k.length := by simp [strB]
    unfold bytesRow
    rw [Array.getElem?_append_left (by simp [e2]; exact hl), Array.getElem?_map, ← Array.getElem?_toList, e, hj]
    rfl
theorem str_size (k : Key) : (strB k).size = k.length := by simp [strB, ByteArray.size]
/-- A key in a block of its own, whatever stands behind it. -/
theorem key_block {w : World} {b : Nat} {cur : Array Value} {fr : Nat × Nat} {k : Key} (h : w.heap[b]? = some (.cells cur 5 fr)) (hc : ∀ (j : Nat) c, k[j]? = some c → cur[j]? = some (.int .u8 (c.toNat : Int))) (n c : Nat) (hn : k.length = n) (hcap : n ≤ c) (hs : n ≤ 140737488355328) : KeyAt w (.slice (some ⟨b, 0, none⟩) n c) k := by
  subst hn
  refine ⟨⟨_, c, rfl, fun j x hj => ⟨b, 0, rfl, (Array.getElem?_eq_some_iff.1 h).1, ?_⟩, hcap, fun h => by cases h⟩, hs⟩
  rw [Nat.zero_add]
  simp only [World.cell?, h]
  exact hc j x hj

theorem strB_ne (a b : List UInt8) : ((strB a).toList != (strB b).toList) = !decide (a = b) := by rw [bne, strB_eq]

set_option maxHeartbeats 1600000 in
set_option maxRecDepth 100000 in
theorem same_any {w : World} {v u : Value} {L M : List It} (h : ListAt w.heap.size w v L) (hu : ListAt w.heap.size w u M) :
    Calls Try.prog 20 #[v, u] w fun e w' => e = .returned (.bool (decide (L.map It.e = M.map It.e))) ∧ ∃ q, w' = w.drewN q := by
  have HL : Hid (ListAt w.heap.size w v L) := h
  have HM : Hid (ListAt w.heap.size w u M) := hu
  have hs1 := h.short
  have hs2 := hu.short
  obtain ⟨a1, c1, rfl⟩ := h.form
  obtain ⟨a2, c2, rfl⟩ := hu.form
  clear h hu
  by_cases hlen : L.length = M.length
  · have hlz : ((L.length : Int) != (M.length : Int)) = false := by simp [hlen]
    have HLEN : Hid (L.length = M.length) := hlen
    clear hlen
    go_enter Try.func20, Try.ntmps20
    go_wp2_with fail
    go_loopw [5] (fun i wx => ∃ k : Nat, k ≤ L.length ∧ i = .int .i64 k ∧ (L.take k).map It.e = (M.take k).map It.e ∧ ∃ q, wx = w.drewN q) (fun i _ => L.length - (intOf i).toNat)
    case atStart => exact ⟨0, by omega, rfl, rfl, 0, rfl⟩
    case round =>
      obtain ⟨k, hk, rfl, heq, q, rfl⟩ := hrel
      have HEQ : Hid ((L.take k).map It.e = (M.take k).map It.e) := heq
      clear heq
      by_cases hkl : k < L.length
      · have hkz : (k : Int) < (L.length : Int) := by omega
        have hkm : (k : Int) < (M.length : Int) := by have := HLEN.out; omega
        obtain ⟨x, hx⟩ : ∃ x, L[k]? = some x := ⟨_, List.getElem?_eq_getElem hkl⟩
        obtain ⟨y, hy⟩ : ∃ y, M[k]? = some y := ⟨_, List.getElem?_eq_getElem (by have := HLEN.out; omega)⟩
        obtain ⟨g, off, _, e1, k0, k1⟩ := HL.out.cells k x hx
        cases e1
        obtain ⟨g', off', _, e1, m0, m1⟩ := HM.out.cells k y hy
        cases e1
        have hxo := HL.out.ok x (List.mem_of_getElem? hx)
        have hyo := HM.out.ok y (List.mem_of_getElem? hy)
        have e1 : ∀ q, Sem.run Try.prog (convert 39 9 x.v1) (w.drewN q) = .ok (.string (strB x.e.k)) (w.drewN q) := fun q => conv_key ((hxo.k.at (Nat.le_refl _)).draws q)
        have e2 : ∀ q, Sem.run Try.prog (convert 39 9 x.v2) (w.drewN q) = .ok (.string (strB x.e.v)) (w.drewN q) := fun q => conv_key ((hxo.v.at (Nat.le_refl _)).draws q)
        have e3 : ∀ q, Sem.run Try.prog (convert 39 9 y.v1) (w.drewN q) = .ok (.string (strB y.e.k)) (w.drewN q) := fun q => conv_key ((hyo.k.at (Nat.le_refl _)).draws q)
        have e4 : ∀ q, Sem.run Try.prog (convert 39 9 y.v2) (w.drewN q) = .ok (.string (strB y.e.v)) (w.drewN q) := fun q => conv_key ((hyo.v.at (Nat.le_refl _)).draws q)
        have s1 := strB_eq x.e.k y.e.k
        have s2 := strB_eq x.e.v y.e.v
        have HN : Hid (x.e.k = y.e.k → x.e.v = y.e.v → (L.take (k + 1)).map It.e = (M.take (k + 1)).map It.e) := fun h1 h2 => by
          have : x.e = y.e := by
            cases hxe : x.e; cases hye : y.e
            rw [hxe, hye] at h1 h2
            simp only at h1 h2
            rw [h1, h2]
          rw [List.take_add_one, List.take_add_one, hx, hy]; simp [HEQ.out, this]
        have HD : Hid (x.e ≠ y.e → decide (L.map It.e = M.map It.e) = false) := fun hne => by
          rw [decide_eq_false_iff_not]
          intro e
          have := congrArg (fun l => l[k]?) e
          simp [hx, hy] at this
          exact hne this
        clear hxo hyo hx hy
        by_cases hk1 : x.e.k = y.e.k
        · by_cases hv1 : x.e.v = y.e.v
          · have HNX : Hid _ := HN.out hk1 hv1
            rw [decide_eq_true hk1] at s1
            rw [decide_eq_true hv1] at s2
            clear HN HD hk1 hv1
            generalize strB x.e.k = S1 at *
            generalize strB x.e.v = S2 at *
            generalize strB y.e.k = S3 at *
            generalize strB y.e.v = S4 at *
            go_wp2_with fail
            go_quiet (fail)
            go_wp2
            exact ⟨⟨k + 1, by omega, by go_num, HNX.out, _, rfl⟩, by simp [intOf]; omega⟩
          · have HDX : Hid _ := HD.out (fun e => hv1 (by rw [e]))
            rw [decide_eq_true hk1] at s1
            rw [decide_eq_false hv1] at s2
            clear HN HD hk1 hv1
            generalize strB x.e.k = S1 at *
            generalize strB x.e.v = S2 at *
            generalize strB y.e.k = S3 at *
            generalize strB y.e.v = S4 at *
            go_wp2_with fail
            go_quiet (fail)
            go_wp2
            go_ret
            exact ⟨ret_bool (by rw [HDX.out]), _, draws_add _ _ _⟩
        · have HDX : Hid _ := HD.out (fun e => hk1 (by rw [e]))
          rw [decide_eq_false hk1] at s1
          clear HN HD hk1 s2
          generalize strB x.e.k = S1 at *
          generalize strB x.e.v = S2 at *
          generalize strB y.e.k = S3 at *
          generalize strB y.e.v = S4 at *
          go_wp2_with fail
          go_quiet (fail)
          go_wp2
          go_ret
          exact ⟨ret_bool (by rw [HDX.out]), _, draws_add _ _ _⟩
      · have hkz : ¬ (k : Int) < (L.length : Int) := by omega
        have HE : Hid (decide (L.map It.e = M.map It.e) = true) := by
          have h1 := HEQ.out
          have hl := HLEN.out
          rw [List.take_of_length_le (by omega), List.take_of_length_le (by omega)] at h1
          simp [Hid, h1]
        go_wp2
        go_ret
        exact ⟨ret_bool (by rw [HE.out]), q, rfl⟩
  · have hlz : ((L.length : Int) != (M.length : Int)) = true := by simp; omega
    have HN : Hid (decide (L.map It.e = M.map It.e) = false) := by
      rw [Hid, decide_eq_false_iff_not]
      intro e
      exact hlen (by simpa using congrArg List.length e)
    clear hlen
    go_enter Try.func20, Try.ntmps20
    go_wp2
    go_ret
    exact ⟨ret_bool (by rw [HN.out]), 0, rfl⟩
end Go.Proofs.Ytgifnaahahfhbaa
