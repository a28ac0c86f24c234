/- The law's own functions: lent, back. -/
import Derived.Test.YtafkimhnllnopaaEnds
import Derived.Laws.CopyOwn
import Derived.BigQuiet
namespace Go.Proofs.Ytafkimhnllnopaa
open Go.RowKit

/-- The bytes that are lent, as far as the marks are laid. -/
def lentL (bs : List UInt8) (k : Nat) : List UInt8 := bs ++ List.replicate k 167 ++ List.replicate (40 - k) 0
theorem lentL_length (bs : List UInt8) (k : Nat) (hk : k ≤ 40) : (lentL bs k).length = bs.length + 40 := by simp [lentL]; omega
theorem lentL_next (bs : List UInt8) (k : Nat) (hk : k < 40) : (lentL bs k).set (bs.length + k) 167 = lentL bs (k + 1) := by
  unfold lentL
  have e : 40 - k = (40 - (k + 1)) + 1 := by omega
  rw [e, List.replicate_succ, List.set_append_right _ _ (by simp), List.replicate_succ' (n := k)]
  simp

theorem splice_lent (bs : List UInt8) : splice (List.replicate (bs.length + 40) (Value.int .u8 0)) 0 (bs.map encB) = (lentL bs 0).map encB := by
  simp [splice, lentL, encB]

set_option maxHeartbeats 800000 in
set_option maxRecDepth 100000 in
theorem lent_any (w : World) (a : Option Addr) (cap : Nat) (bs : List UInt8) (hb : BytesAt w.heap.size w a bs) (hlen : bs.length ≤ 140737488351232) :
    Calls Try.prog 10 #[.slice a bs.length cap] w fun e w' => e = .returned (.slice (some ⟨w.heap.size, 0, none⟩) bs.length (bs.length + 40)) ∧ RowIs w' w.heap.size (lentL bs 40) ∧ Below w.heap.size w w' := by
  obtain ⟨i0, hi, hz0, hz1, hz2⟩ := info5'
  have hsz5 : (Try.prog.info? 5).map (·.size) = some 1 := by rw [hi]; simp [hz1]
  have HB : Hid (BytesAt w.heap.size w a bs) := hb
  clear hb
  have hmin : (bs.map encB).length = Nat.min bs.length (bs.length + 40) := by rw [List.length_map]; exact (Nat.min_eq_left (by omega)).symm
  have hfit : 0 + (bs.map encB).length ≤ (List.replicate (bs.length + 40) (Value.int .u8 0)).length := by simp
  go_enter Try.func10, Try.ntmps10
  go_wp2_with (first
    | (at_make; refine wpList_make_full _ rfl _ _ 27 rfl w.heap.size 5 i0 (.int .u8 0) 1 Try.underlying27 hi hz0 hz1 _ _ _ _ (bs.length + 40) rfl rfl (by omega) (by omega) (by rw [hz2]; omega) (by unfold maxLen; omega) (Nat.le_refl _) ?_
       intro w0 hown0 hg0
       rw [madeBytes] at hown0
       have HR0 : Hid (w0.heap[w.heap.size]? = some (.cells (List.replicate (bs.length + 40) (Value.int .u8 0)).toArray 5 (0, 0))) := own_full hown0
       have HB0 : Hid (Below w.heap.size w w0) := (Below.refl _ _).grown hg0 (Nat.le_refl _) (fun k h => by cases h)
       clear hown0 hg0)
    | (refine wpList_copy_splice rfl _ _ 27 27 rfl 5 Try.underlying27 hsz5 _ _ _ _ _ _ rfl rfl w.heap.size 0 (List.replicate (bs.length + 40) (Value.int .u8 0)) 5 HR0.out (bs.map encB) hmin (copy_src (HB.out.below HB0.out) _ _) hfit (oneB bs) w.heap.size w HB0.out (Nat.le_refl _) ?_
       intro w2 hr2 hb2
       have HB2 : Hid (Below w.heap.size w w2) := hb2
       clear hb2))
  rw [splice_lent] at hr2
  have HR2 : Hid (RowIs w2 w.heap.size (lentL bs 0)) := hr2.out
  clear hr2 hmin hfit hsz5 hi hz0 hz1 hz2
  go_loopw [4] (fun i wr => ∃ k : Nat, k ≤ 40 ∧ i = .int .i64 ((bs.length : Int) + (k : Int)) ∧ RowIs wr w.heap.size (lentL bs k) ∧ Below w.heap.size w wr) (fun i _ => bs.length + 40 - (intOf i).toNat)
  case atStart => exact ⟨0, by omega, by simp, HR2.out, HB2.out⟩
  case round =>
    obtain ⟨k, hk, rfl, hrow, hbe⟩ := hrel
    obtain ⟨n, hn⟩ : ∃ n : Nat, (bs.length : Int) + (k : Int) = (n : Int) := ⟨bs.length + k, by omega⟩
    have HN : Hid (n = bs.length + k) := by show _ = _; omega
    rw [hn]
    have HR : Hid (RowIs wr w.heap.size (lentL bs k)) := hrow
    have HBE : Hid (Below w.heap.size w wr) := hbe
    by_cases hlt : k < 40
    · have hnz : (n : Int) < (bs.length : Int) + 40 := by omega
      have hcell := hrow.cell n
      have hfz := hrow.frozen n
      obtain ⟨c, hc⟩ : ∃ c, (lentL bs k)[n]? = some c := ⟨(lentL bs k)[n]'(by rw [lentL_length _ _ hk]; omega), List.getElem?_eq_getElem _⟩
      rw [hc] at hcell
      clear hrow hbe hc hn
      go_wp2
      have hset := HR.out.set n 167
      rw [HN.out, lentL_next bs k hlt] at hset
      have hn1 := HN.out
      refine ⟨⟨k + 1, by omega, ?_, ?_, HBE.out.setCell (Nat.le_refl _) _⟩, by simp [intOf]; omega⟩
      · congr 1
        omega
      · rw [HN.out]
        exact hset
    · obtain rfl : k = 40 := by omega
      have hnz : ¬ ((n : Int) < (bs.length : Int) + 40) := by omega
      clear hrow hbe hn
      go_wp2
      go_ret
      exact ⟨rfl, HR.out, HBE.out⟩
/-- What its owner has written over, as far as k. -/
def overL (L : List UInt8) (k : Nat) : List UInt8 := (L.take k).map (· ^^^ 51) ++ L.drop k
theorem overL_length (L : List UInt8) (k : Nat) : (overL L k).length = L.length := by simp [overL]; omega
theorem overL_at (L : List UInt8) (k : Nat) : (overL L k)[k]? = L[k]? := by
  unfold overL
  by_cases h : k ≤ L.length
  · rw [List.getElem?_append_right (by simp; omega)]
    simp only [List.length_map, List.length_take, List.getElem?_drop]
    congr 1
    omega
  · rw [List.getElem?_eq_none (by simp; omega), List.getElem?_eq_none (by omega)]
theorem overL_next (L : List UInt8) (k : Nat) (c : UInt8) (hc : L[k]? = some c) : (overL L k).set k (c ^^^ 51) = overL L (k + 1) := by
  have hk := (List.getElem?_eq_some_iff.1 hc).1
  unfold overL
  have hlen : ((L.take k).map (· ^^^ 51)).length = k := by simp; omega
  rw [List.set_append_right _ _ (by omega), hlen, Nat.sub_self, List.take_add_one, hc, List.drop_eq_getElem_cons hk]
  have hv : L[k] = c := by have := (List.getElem?_eq_some_iff.1 hc).2; exact this
  simp [hv]
theorem lent_low (bs : List UInt8) (k : Nat) (h : k < bs.length) : (lentL bs 40)[k]? = bs[k]? := by
  unfold lentL
  rw [List.append_assoc, List.getElem?_append_left h]
theorem lent_high (bs : List UInt8) (k : Nat) (h : bs.length ≤ k) (h2 : k < bs.length + 40) : (lentL bs 40)[k]? = some 167 := by
  unfold lentL
  rw [List.append_assoc, List.getElem?_append_right h, List.getElem?_append_left (by simp; omega), List.getElem?_replicate, if_pos (by omega)]

set_option maxHeartbeats 800000 in
set_option maxRecDepth 100000 in
theorem back_any (B g : Nat) (w0 w : World) (a : Option Addr) (cap : Nat) (bs : List UInt8) (hb : BytesAt B w a bs) (hB : B ≤ g) (h0 : Below B w0 w) (hr : RowIs w g (lentL bs 40)) (hlen : bs.length ≤ 140737488351232) :
    Calls Try.prog 15 #[.slice (some ⟨g, 0, none⟩) bs.length (bs.length + 40), .slice a bs.length cap] w fun e w' => e = .returned (.bool true) ∧ RowIs w' g (overL (lentL bs 40) (bs.length + 40)) ∧ Below B w0 w' ∧ (∀ k : Nat, k ≠ g → w'.heap[k]? = w.heap[k]?) ∧ w'.heap.size = w.heap.size := by
  have HB : Hid (BytesAt B w a bs) := hb
  have HR : Hid (RowIs w g (lentL bs 40)) := hr
  have H0 : Hid (Below B w0 w) := h0
  have HBG : Hid (B ≤ g) := hB
  clear hb hr h0 hB
  go_enter Try.func15, Try.ntmps15
  go_wp2
  go_loopw [7, 6] (fun i t wr => ∃ k : Nat, k ≤ bs.length + 40 ∧ i = .int .i64 k ∧ t = .bool true ∧ RowIs wr g (overL (lentL bs 40) k) ∧ Below B w wr ∧ (∀ q : Nat, q ≠ g → wr.heap[q]? = w.heap[q]?) ∧ wr.heap.size = w.heap.size) (fun i _ _ => bs.length + 40 - (intOf i).toNat)
  case atStart => exact ⟨0, by omega, rfl, rfl, by simpa [overL] using HR.out, Below.refl _ _, fun _ _ => rfl, rfl⟩
  case round =>
    obtain ⟨k, hk, rfl, rfl, hrow, hbe, hoth, hsz⟩ := hrel
    have HOT : Hid (∀ q : Nat, q ≠ g → wr.heap[q]? = w.heap[q]?) := hoth
    have HSZ : Hid (wr.heap.size = w.heap.size) := hsz
    clear hoth hsz
    have HRW : Hid (RowIs wr g (overL (lentL bs 40) k)) := hrow
    have HBE : Hid (Below B w wr) := hbe
    by_cases hlt : k < bs.length + 40
    · have hkz : (k : Int) < (bs.length : Int) + 40 := by omega
      have hcell := hrow.cell k
      have hfz := hrow.frozen k
      rw [overL_at] at hcell
      by_cases hlo : k < bs.length
      · have hlz : (k : Int) < (bs.length : Int) := by omega
        obtain ⟨p, hp⟩ : ∃ p, bs[k]? = some p := ⟨bs[k], List.getElem?_eq_getElem hlo⟩
        obtain ⟨gb, ob, rfl, hgb, hpb⟩ := HB.out.below hbe k p hp
        rw [lent_low bs k hlo, hp] at hcell
        have hc1 : wr.cell? ⟨g, k, none⟩ = some (.int .u8 (p.toNat : Int)) := hcell
        have HP : Hid ((lentL bs 40)[k]? = some p) := by show _ = _; rw [lent_low bs k hlo, hp]
        have hne : ¬ gb = g := by have := HBG.out; omega
        clear hrow hbe hcell hp
        go_wp2
        go_quiet (fail)
        go_wp2
        have hx : bits BinOp.xor IntKind.u8 (p.toNat : Int) 51 = ((p ^^^ 51).toNat : Int) := xor_byte p 51
        rw [hx]
        have hset := RowIs.set (w := wr.drewN nq) HRW.out k (p ^^^ 51)
        rw [overL_next _ _ _ HP.out] at hset
        exact ⟨⟨k + 1, by omega, by go_num, rfl, hset, (below_draws HBE.out nq).setCell HBG.out _, fun q hq => by rw [heap_set_other _ hq]; exact HOT.out q hq, by have := HSZ.out; simpa using this⟩, by simp [intOf]; omega⟩
      · have hlz : decide ((k : Int) < (bs.length : Int)) = false := decide_eq_false (by omega)
        have hlz2 : (bs.length : Int) ≤ (k : Int) := by omega
        obtain ⟨p, hp⟩ : ∃ p : UInt8, p = 167 := ⟨_, rfl⟩
        have HP : Hid ((lentL bs 40)[k]? = some p) := by show _ = _; rw [hp, lent_high bs k (by omega) hlt]
        have hc1 : wr.cell? ⟨g, k, none⟩ = some (.int .u8 167) := by rw [hcell, lent_high bs k (by omega) hlt]; rfl
        have hpz : (167 : Int) = (p.toNat : Int) := by rw [hp]; rfl
        have HPZ : Hid _ := hpz
        clear hrow hbe hcell hp hpz
        go_wp2
        go_quiet (fail)
        go_wp2
        rw [HPZ.out]
        have hx : bits BinOp.xor IntKind.u8 (p.toNat : Int) 51 = ((p ^^^ 51).toNat : Int) := xor_byte p 51
        rw [hx]
        have hset := RowIs.set (w := wr.drewN nq) HRW.out k (p ^^^ 51)
        rw [overL_next _ _ _ HP.out] at hset
        exact ⟨⟨k + 1, by omega, by go_num, rfl, hset, (below_draws HBE.out nq).setCell HBG.out _, fun q hq => by rw [heap_set_other _ hq]; exact HOT.out q hq, by have := HSZ.out; simpa using this⟩, by simp [intOf]; omega⟩
    · obtain rfl : k = bs.length + 40 := by omega
      clear hrow hbe
      go_wp2
      go_ret
      exact ⟨rfl, HRW.out, H0.out.trans HBE.out, HOT.out, HSZ.out⟩
end Go.Proofs.Ytafkimhnllnopaa
