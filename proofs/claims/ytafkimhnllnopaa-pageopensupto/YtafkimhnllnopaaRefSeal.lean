/- The document's functions of layer 3: Sized, Room, big, bytes, Seal. -/
import Derived.Test.YtafkimhnllnopaaRefSum
import Derived.Test.YtafkimhnllnopaaFormWalk
namespace Go.Proofs.Ytafkimhnllnopaa
open Go.RowKit

theorem refSized_any (z : Int) (w : World) : Calls Try.prog 26 #[.int .i64 z] w fun e w' => e = .returned (.bool (sizedB z)) ∧ w' = w := by
  cases h : sizedB z with
  | true =>
    rcases sized_cases h with rfl | rfl | rfl | rfl
    all_goals
      clear h
      go_enter Try.func26, Try.ntmps26
      go_wp2
      go_ret
      exact ⟨rfl, rfl⟩
  | false =>
    simp only [sizedB, Bool.or_eq_false_iff] at h
    obtain ⟨⟨⟨h1, h2⟩, h3⟩, h4⟩ := h
    go_enter Try.func26, Try.ntmps26
    go_wp2
    go_ret
    exact ⟨rfl, rfl⟩
theorem refRoom_any (z : Int) (w : World) : Calls Try.prog 14 #[.int .i64 z] w fun e w' => e = .returned (.int .i64 (roomOf z)) ∧ w' = w := by
  go_enter Try.func14, Try.ntmps14
  go_wp2_with fail
  refine (refSized_any z w).mono ?_
  rintro _ _ ⟨rfl, rfl⟩
  cases h : sizedB z with
  | true =>
    have HR : Hid (z - 32 = roomOf z) := (room_sized h).symm
    have hb := sized_bounds h
    clear h
    go_wp2
    go_ret
    exact ⟨ret_int HR.out, rfl⟩
  | false =>
    have HR : Hid (0 = roomOf z) := (room_other h).symm
    clear h
    go_wp2
    go_ret
    exact ⟨ret_int HR.out, rfl⟩

/-- A row that a literal makes. -/
theorem owns_new (w : World) (xs : List UInt8) (n : Nat) (hn : xs.length = n) (hl : n ≤ maxLen) : (w.alloc (.cells (xs.map encB).toArray 5)).ownsRow w.heap.size 5 1 (.slice (some ⟨w.heap.size, 0, none⟩) n n) n (xs.map encB) := by
  subst hn
  exact ⟨by simp, .inr ⟨w.heap.size, xs.length, (xs.map encB).toArray, rfl, Nat.le_refl _, heap_alloc_last w _, Nat.le_refl _, hl, by simp, by simp [List.take_of_length_le]⟩⟩
theorem bytes_new (w : World) (xs : List UInt8) (hl : xs.length ≤ maxLen) : BytesAt (w.alloc (.cells (xs.map encB).toArray 5)).heap.size (w.alloc (.cells (xs.map encB).toArray 5)) (some ⟨w.heap.size, 0, none⟩) xs := bytes_row (owns_new w xs xs.length rfl hl)
theorem own_alloc {w : World} {base g n c : Nat} {xs : List Value} (h : w.ownsRow base 5 1 (.slice (some ⟨g, 0, none⟩) n c) n xs) (o : Obj) : (w.alloc o).ownsRow base 5 1 (.slice (some ⟨g, 0, none⟩) n c) n xs := by
  refine own_keep h ?_ (Nat.le_refl _)
  rcases h.2 with ⟨e, _⟩ | ⟨g', _, _, e, _, hg, _⟩
  · cases e
  · cases e
    exact Below.heap_alloc _ _ _ (Array.getElem?_eq_some_iff.1 hg).1

/-- One byte more onto a row of the call's own. -/
theorem wpList_append_one {w : World} {ops : Array Oper} {rest : List Oper} {o : Oper} {a : Act} {Q : Exit → Act → World → Prop} (hgd : o.guard = none) (s x : Operand)
    (ho : o.op = .call { callee := .builtin .append, args := #[s, x], argTypes := #[27, 27] }) (base : Nat)
    (w0 : World) (c : UInt8) (v : Int) (hv : v = (c.toNat : Int)) (hw : w = w0.alloc (.cells #[.int .u8 v] 5))
    (g n cg : Nat) (xs : List UInt8) (hs : a.eval s = .slice (some ⟨g, 0, none⟩) n cg) (hown : w0.ownsRow base 5 1 (.slice (some ⟨g, 0, none⟩) n cg) n (xs.map encB))
    (hx : a.eval x = .slice (some ⟨w0.heap.size, 0, none⟩) 1 1) (hlen : n + 1 ≤ 140737488355328) (hbase : base ≤ w0.heap.size)
    (h : ∀ g' c' w', w'.ownsRow base 5 1 (.slice (some ⟨g', 0, none⟩) (n + 1) c') (n + 1) ((xs ++ [c]).map encB) → base ≤ g' → Below base w0 w' → wpList Try.prog ops Q rest (a.put o.dst (.slice (some ⟨g', 0, none⟩) (n + 1) c')) w') : wpList Try.prog ops Q (o :: rest) a w := by
  subst hv
  subst hw
  have hb : Below base w0 (w0.alloc (.cells ([c].map encB).toArray 5)) := (Below.refl _ _).alloc hbase _
  refine wpList_append_to hgd s x ho base g n cg xs hs (own_alloc hown _) (some ⟨w0.heap.size, 0, none⟩) 1 1 [c] rfl hx (bytes_new w0 [c] (show 1 ≤ maxLen by decide)) (fun h => by cases h) hlen (Nat.le_trans hbase hb.size) ?_
  intro g' c' w' ho' hg'
  exact h g' c' w' ho' (own_base ho') (hb.grown hg' (Nat.le_trans hbase hb.size) (fun k e => by cases e; exact own_base hown))

theorem be_take (k n j : Nat) (h : j < k) : (be k n).take (j + 1) = (be k n).take j ++ [UInt8.ofNat (n / 256 ^ (k - 1 - j))] := by
  rw [List.take_add_one, be_at k n j h]
  rfl

set_option maxHeartbeats 800000 in
set_option maxRecDepth 100000 in
theorem big_any (w : World) (base g n cg N k : Nat) (m : Int) (xs : List UInt8) (hm : m = (N : Int)) (hown : w.ownsRow base 5 1 (.slice (some ⟨g, 0, none⟩) n cg) n (xs.map encB)) (hbase : base ≤ w.heap.size) (hn : n ≤ 140737488351232) (hk : k ≤ 8) :
    Calls Try.prog 36 #[.slice (some ⟨g, 0, none⟩) n cg, .int .u64 m, .int .i64 (k : Int)] w fun e w' => ∃ g' c', e = .returned (.slice (some ⟨g', 0, none⟩) (n + k) c') ∧ w'.ownsRow base 5 1 (.slice (some ⟨g', 0, none⟩) (n + k) c') (n + k) ((xs ++ be k N).map encB) ∧ Below base w w' := by
  subst hm
  have HO : Hid (w.ownsRow base 5 1 (.slice (some ⟨g, 0, none⟩) n cg) n (xs.map encB)) := hown
  clear hown
  go_enter Try.func36, Try.ntmps36
  go_wp2
  go_loopw [7, 0] (fun i t wr => ∃ j g' c' : Nat, j ≤ k ∧ i = .int .i64 ((k : Int) - 1 - (j : Int)) ∧ t = .slice (some ⟨g', 0, none⟩) (n + j) c' ∧ wr.ownsRow base 5 1 (.slice (some ⟨g', 0, none⟩) (n + j) c') (n + j) ((xs ++ (be k N).take j).map encB) ∧ Below base w wr) (fun i _ _ => (intOf i + 1).toNat)
  case atStart => exact ⟨0, g, cg, by omega, by simp, by simp, by simpa using HO.out, Below.refl _ _⟩
  case round =>
    obtain ⟨j, g', c', hj, rfl, rfl, hown, hbe⟩ := hrel
    have HOW : Hid (wr.ownsRow base 5 1 (.slice (some ⟨g', 0, none⟩) (n + j) c') (n + j) ((xs ++ (be k N).take j).map encB)) := hown
    have HBE : Hid (Below base w wr) := hbe
    clear hown hbe
    by_cases hlt : j < k
    · obtain ⟨i, hi⟩ : ∃ i : Nat, (k : Int) - 1 - (j : Int) = (i : Int) := ⟨k - 1 - j, by omega⟩
      have HI : Hid (i = k - 1 - j) := by show _ = _; omega
      have HI2 : Hid ((k : Int) - 1 - (j : Int) = (i : Int)) := hi
      rw [hi]
      clear hi
      have hi8 : (i : Int) < 8 := by have := HI.out; omega
      go_wp2_with (first
        | (at_builtin; refine wpList_append_one rfl _ _ rfl base wr (UInt8.ofNat (N / 256 ^ i)) _ (store_byte N i) rfl g' (n + j) c' _ rfl HOW.out rfl (by omega) (Nat.le_trans hbase HBE.out.size) ?_
           intro g2 c2 w2 ho2 hg2 hb2
           have HO2 : Hid (w2.ownsRow base 5 1 (.slice (some ⟨g2, 0, none⟩) (n + j + 1) c2) (n + j + 1) (((xs ++ (be k N).take j) ++ [UInt8.ofNat (N / 256 ^ i)]).map encB)) := ho2
           have HB2 : Hid (Below base w w2) := HBE.out.trans hb2
           clear ho2 hg2 hb2))
      refine ⟨⟨j + 1, g2, c2, by omega, ?_, rfl, ?_, HB2.out⟩, by simp [intOf]⟩
      · have := HI2.out
        congr 1
        omega
      · have := HO2.out
        rw [List.append_assoc, HI.out, ← be_take k N j hlt] at this
        exact this
    · obtain rfl : j = k := by omega
      have hneg : (j : Int) - 1 - (j : Int) = -1 := by omega
      rw [hneg]
      go_wp2
      go_ret
      have := HOW.out
      rw [List.take_of_length_le (by rw [be_length]; omega)] at this
      exact ⟨g', c', rfl, this, HBE.out⟩

theorem ofR_len (w : World) (a : Option Addr) (n cap : Nat) (bs : List UInt8) (hb : BytesAt w.heap.size w a bs) (hn : bs.length = n) (hlen : n ≤ 140737488355328) :
    Calls Try.prog 37 #[.slice a n cap] w fun e w' => e = .returned (.int .u64 ((sumMore 0#64 bs).toNat : Int)) ∧ w' = w := by
  subst hn
  exact ofR_any w a cap bs hb hlen
theorem zero_byte : (0 : Int) = ((0 : UInt8).toNat : Int) := rfl
theorem zeros_one (j : Nat) : zeros j ++ [0] = zeros (j + 1) := by simp [zeros, List.replicate_succ']
theorem le_take (x : BitVec 64) (j : Nat) (h : j < 8) : (le 8 x).take (j + 1) = (le 8 x).take j ++ [UInt8.ofNat (x.toNat / 256 ^ j)] := by
  rw [List.take_add_one, le_at 8 x j h]
  rfl
theorem four_is (k : Nat) (hk : k < 256) : (#[.int .u8 66, .int .u8 89, .int .u8 (k : Int), .int .u8 0] : Array Value) = (([66, 89, UInt8.ofNat k, 0] : List UInt8).map encB).toArray := by
  simp [encB]
  omega
theorem zero4_is : (#[.int .u8 0, .int .u8 0, .int .u8 0, .int .u8 0] : Array Value) = ((zeros 4).map encB).toArray := by simp [zeros, encB]
theorem front_is (k n g l : Nat) : ((([66, 89, UInt8.ofNat k, 0] ++ be 4 n) ++ be 8 g) ++ be 4 l) ++ zeros 4 = front k n g l := by simp [front]

set_option maxHeartbeats 1600000 in
set_option maxRecDepth 100000 in
theorem refBytes_any (w : World) (s k n g : Nat) (a : Option Addr) (cap : Nat) (p : List UInt8) (hb : BytesAt w.heap.size w a p) (hp : p.length + 32 ≤ s) (hs : s ≤ 4096) (na : a = none → cap = 0) (hk : k ≤ 5) (hn : n < 65536) :
    Calls Try.prog 27 #[.int .i64 (s : Int), .agg #[.int .i64 (k : Int), .int .i64 (n : Int), .int .u64 (g : Int)], .slice a p.length cap] w fun e w' => ∃ q c, e = .returned (.slice (some ⟨q, 0, none⟩) s c) ∧ w'.ownsRow w.heap.size 5 1 (.slice (some ⟨q, 0, none⟩) s c) s ((sealed s k n g p).map encB) ∧ Below w.heap.size w w' := by
  have HP : Hid (BytesAt w.heap.size w a p) := hb
  have NA : Hid (a = none → cap = 0) := na
  obtain ⟨w0, hw0⟩ : ∃ w0, w0 = w.alloc (.cells #[.int .i64 (k : Int), .int .i64 (n : Int), .int .u64 (g : Int)] 26) := ⟨_, rfl⟩
  have hb0 : Below w.heap.size w w0 := by rw [hw0]; exact (Below.refl _ _).alloc (Nat.le_refl _) _
  have hx0 : w0.heap[w.heap.size]? = some (.cells #[.int .i64 (k : Int), .int .i64 (n : Int), .int .u64 (g : Int)] 26 (0, 0)) := by rw [hw0]; exact heap_alloc_last _ _
  have hbox : ∀ W, Below w0.heap.size w0 W → W.cell? ⟨w.heap.size, 0, none⟩ = some (.int .i64 k) ∧ W.cell? ⟨w.heap.size, 1, none⟩ = some (.int .i64 n) ∧ W.cell? ⟨w.heap.size, 2, none⟩ = some (.int .u64 g) := fun W h =>
    head_cells (by rw [h.block _ (Array.getElem?_eq_some_iff.1 hx0).1]; exact hx0)
  have HX : Hid _ := hbox
  have HB0 : Hid (Below w.heap.size w w0) := hb0
  have HL0 : Hid (w.heap.size < w0.heap.size) := (Array.getElem?_eq_some_iff.1 hx0).1
  clear hb na hb0 hx0 hbox
  go_enter Try.func27, Try.ntmps27
  go_upto_region 1 with fail
  rw [← hw0]
  clear hw0
  obtain ⟨x0, x1, x2⟩ := HX.out w0 (Below.refl _ _)
  have hlt0 : w.heap.size < w0.heap.size := HL0.out
  go_upto_region 2 with fail
  rw [four_is k (by omega)]
  obtain ⟨w1, hw1⟩ : ∃ w1, w1 = w0.alloc (.cells (([66, 89, UInt8.ofNat k, 0] : List UInt8).map encB).toArray 5) := ⟨_, rfl⟩
  have HO1 : Hid (w1.ownsRow w0.heap.size 5 1 (.slice (some ⟨w0.heap.size, 0, none⟩) 4 4) 4 (([66, 89, UInt8.ofNat k, 0] : List UInt8).map encB)) := by rw [hw1]; exact owns_new w0 _ 4 rfl (by decide)
  have HB1 : Hid (Below w0.heap.size w0 w1) := by rw [hw1]; exact (Below.refl _ _).alloc (Nat.le_refl _) _
  rw [← hw1]
  clear hw1 x0 x1 x2 hlt0
  obtain ⟨x0, x1, x2⟩ := HX.out w1 HB1.out
  go_wp2_with fail
  refine (big_any w1 w0.heap.size _ 4 4 n 4 _ _ rfl HO1.out HB1.out.size (by omega) (by omega)).mono ?_
  rintro _ w2 ⟨g2, c2, rfl, ho2, hb2⟩
  have HO2 : Hid _ := ho2
  have HB2 : Hid (Below w0.heap.size w0 w2) := HB1.out.trans hb2
  clear x0 x1 x2 ho2 hb2
  obtain ⟨x0, x1, x2⟩ := HX.out w2 HB2.out
  go_wp2_with fail
  refine (big_any w2 w0.heap.size g2 (4 + 4) c2 g 8 _ _ rfl HO2.out HB2.out.size (by omega) (by omega)).mono ?_
  rintro _ w3 ⟨g3, c3, rfl, ho3, hb3⟩
  have HO3 : Hid _ := ho3
  have HB3 : Hid (Below w0.heap.size w0 w3) := HB2.out.trans hb3
  clear x0 x1 x2 ho3 hb3
  go_wp2_with fail
  refine (big_any w3 w0.heap.size g3 (4 + 4 + 8) c3 p.length 4 _ _ rfl HO3.out HB3.out.size (by omega) (by omega)).mono ?_
  rintro _ w4 ⟨g4, c4, rfl, ho4, hb4⟩
  have HO4 : Hid (w4.ownsRow w0.heap.size 5 1 (.slice (some ⟨g4, 0, none⟩) 20 c4) 20 (((([66, 89, UInt8.ofNat k, 0] ++ be 4 n) ++ be 8 g) ++ be 4 p.length).map encB)) := ho4
  have HB4 : Hid (Below w0.heap.size w0 w4) := HB3.out.trans hb4
  clear ho4 hb4
  have HBA : Hid (Below w0.heap.size w0 (w4.alloc (.cells ((zeros 4).map encB).toArray 5))) := HB4.out.alloc HB4.out.size _
  have HP0 : Hid (BytesAt w0.heap.size w0 a p) := HP.out.here HB0.out
  go_wp2_with (first
    | (at_builtin; rw [zero4_is]; refine wpList_append_to rfl _ _ rfl w0.heap.size g4 20 c4 _ rfl (own_alloc HO4.out _) (some ⟨w4.heap.size, 0, none⟩) 4 4 (zeros 4) (zeros_length 4) rfl (bytes_new w4 (zeros 4) (show 4 ≤ maxLen by decide)) (fun h => by cases h) (by omega) HBA.out.size ?_
       intro g5 c5 w5 ho5 hg5
       rw [front_is] at ho5
       have HO5 : Hid (w5.ownsRow w0.heap.size 5 1 (.slice (some ⟨g5, 0, none⟩) 24 c5) 24 ((front k n g p.length).map encB)) := ho5
       have HB5 : Hid (Below w0.heap.size w0 w5) := HBA.out.grown hg5 HBA.out.size (fun k e => by cases e; exact own_base HO4.out)
       clear ho5 hg5)
    | (at_builtin; refine wpList_append_bytes rfl _ _ rfl w0.heap.size g5 24 c5 (front k n g p.length) rfl HO5.out a cap p rfl (HP0.out.here HB5.out) NA.out (by omega) HB5.out.size ?_
       intro g6 c6 w6 ho6 hg6
       have HO6 : Hid (w6.ownsRow w0.heap.size 5 1 (.slice (some ⟨g6, 0, none⟩) (24 + p.length) c6) (24 + p.length) ((front k n g p.length ++ p).map encB)) := ho6
       have HB6 : Hid (Below w0.heap.size w0 w6) := HB5.out.grown hg6 HB5.out.size (fun k e => by cases e; exact own_base HO5.out)
       clear ho6 hg6))
  go_loopw [7] (fun t wr => ∃ j g' c' : Nat, 24 + p.length + j ≤ s - 8 ∧ t = .slice (some ⟨g', 0, none⟩) (24 + p.length + j) c' ∧ wr.ownsRow w0.heap.size 5 1 (.slice (some ⟨g', 0, none⟩) (24 + p.length + j) c') (24 + p.length + j) ((front k n g p.length ++ p ++ zeros j).map encB) ∧ Below w0.heap.size w0 wr) (fun t _ => s - (match t with | .slice _ l _ => l | _ => 0))
  case atStart => exact ⟨0, g6, c6, by omega, rfl, by simpa [zeros] using HO6.out, HB6.out⟩
  case round =>
    obtain ⟨j, g', c', hj, rfl, hown, hbe⟩ := hrel
    obtain ⟨L, hL⟩ : ∃ L, Hid (L = 24 + p.length + j) := ⟨_, rfl⟩
    rw [← hL.out] at hown ⊢
    have HOW : Hid (wr.ownsRow w0.heap.size 5 1 (.slice (some ⟨g', 0, none⟩) L c') L ((front k n g p.length ++ p ++ zeros j).map encB)) := hown
    have HBE : Hid (Below w0.heap.size w0 wr) := hbe
    clear hown hbe
    by_cases hlt : L < s - 8
    · have hlz : (L : Int) < (s : Int) - 8 := by omega
      go_wp2_with (first
        | (at_builtin; refine wpList_append_one rfl _ _ rfl w0.heap.size wr 0 _ zero_byte rfl g' L c' _ rfl HOW.out rfl (by omega) HBE.out.size ?_
           intro g2 c2 w2 ho2 hg2 hb2
           have HO2 : Hid (w2.ownsRow w0.heap.size 5 1 (.slice (some ⟨g2, 0, none⟩) (L + 1) c2) (L + 1) (((front k n g p.length ++ p ++ zeros j) ++ [0]).map encB)) := ho2
           have HB2 : Hid (Below w0.heap.size w0 w2) := HBE.out.trans hb2
           clear ho2 hg2 hb2))
      have hLL := hL.out
      refine ⟨⟨j + 1, g2, c2, by omega, by rw [hLL, Nat.add_assoc], ?_, HB2.out⟩, by simp; omega⟩
      have := HO2.out
      rw [List.append_assoc, zeros_one, hLL, Nat.add_assoc (24 + p.length)] at this
      exact this
    · have HBO : Hid (front k n g p.length ++ p ++ zeros j = body s k n g p) := by
        show _ = _
        have := hL.out
        rw [body, List.append_assoc]
        congr 3
        omega
      have HLS : Hid (L = s - 8) := by have := hL.out; show _ = _; omega
      have hlz : ¬ ((L : Int) < (s : Int) - 8) := by omega
      rw [HBO.out] at HOW
      go_wp2_with fail
      refine (ofR_len wr _ L _ (body s k n g p) (bytes_row HOW.out) (by rw [body_length _ _ _ _ _ hp]; exact HLS.out.symm) (by have := HLS.out; omega)).mono ?_
      rintro _ wx ⟨rfl, hwx⟩
      rw [hwx]
      clear hwx
      obtain ⟨x, hx⟩ : ∃ x, Hid (x = sumMore 0#64 (body s k n g p)) := ⟨_, rfl⟩
      rw [← hx.out]
      go_wp2
      go_loopw [9, 7] (fun i t wq => ∃ j g' c' : Nat, j ≤ 8 ∧ i = .int .i64 j ∧ t = .slice (some ⟨g', 0, none⟩) (L + j) c' ∧ wq.ownsRow w0.heap.size 5 1 (.slice (some ⟨g', 0, none⟩) (L + j) c') (L + j) ((body s k n g p ++ (le 8 x).take j).map encB) ∧ Below w0.heap.size w0 wq) (fun i _ _ => 8 - (intOf i).toNat)
      case atStart => exact ⟨0, g', c', by omega, rfl, rfl, by simpa using HOW.out, HBE.out⟩
      case round =>
        obtain ⟨j2, g2, c2, hj2, rfl, rfl, hown2, hbe2⟩ := hrel
        have HOW2 : Hid (wr.ownsRow w0.heap.size 5 1 (.slice (some ⟨g2, 0, none⟩) (L + j2) c2) (L + j2) ((body s k n g p ++ (le 8 x).take j2).map encB)) := hown2
        have HBE2 : Hid (Below w0.heap.size w0 wr) := hbe2
        have hLs : L ≤ 4096 := by have := HLS.out; omega
        clear hown2 hbe2
        by_cases hlt2 : j2 < 8
        · have hlz2 : (j2 : Int) < 8 := by omega
          go_wp2_with (first
            | (at_builtin; refine wpList_append_one rfl _ _ rfl w0.heap.size wr (UInt8.ofNat (x.toNat / 256 ^ j2)) _ (store_byte x.toNat j2) rfl g2 (L + j2) c2 _ rfl HOW2.out rfl (by omega) HBE2.out.size ?_
               intro g3 c3 w3 ho3 hg3 hb3
               have HO3 : Hid (w3.ownsRow w0.heap.size 5 1 (.slice (some ⟨g3, 0, none⟩) (L + j2 + 1) c3) (L + j2 + 1) (((body s k n g p ++ (le 8 x).take j2) ++ [UInt8.ofNat (x.toNat / 256 ^ j2)]).map encB)) := ho3
               have HB3 : Hid (Below w0.heap.size w0 w3) := HBE2.out.trans hb3
               clear ho3 hg3 hb3))
          refine ⟨⟨j2 + 1, g3, c3, by omega, by go_num, rfl, ?_, HB3.out⟩, by simp [intOf]; omega⟩
          have := HO3.out
          rw [List.append_assoc, ← le_take x j2 hlt2] at this
          exact this
        · obtain rfl : j2 = 8 := by omega
          have HSE : Hid (wr.ownsRow w0.heap.size 5 1 (.slice (some ⟨g2, 0, none⟩) (L + 8) c2) (L + 8) ((sealed s k n g p).map encB)) := by
            have := HOW2.out
            rw [List.take_of_length_le (by rw [le_length]; omega), hx.out, ← be_rb] at this
            exact this
          go_wp2
          go_ret
          have e8 : L + 8 = s := by have := HLS.out; omega
          have h9 := HSE.out
          rw [e8] at h9
          refine ⟨g2, c2, by show Ending.returned (Value.slice (some ⟨g2, 0, none⟩) (L + 8) c2) = _; rw [e8], own_keep h9 rfl HB0.out.size, HB0.out.trans (HBE2.out.mono HB0.out.size)⟩

theorem refSeal_arg (z k n : Int) (g : Nat) (a : Option Addr) (l cap : Nat) (w : World) (h : sizedB z = false ∨ mayB k n = false) :
    Calls Try.prog 12 #[.int .i64 z, .agg #[.int .i64 k, .int .i64 n, .int .u64 (g : Int)], .slice a l cap] w fun e w' => e = .returned (.tuple #[.slice none 0 0, .int .i64 1]) ∧ Below w.heap.size w w' := by
  have HB : Hid (Below w.heap.size w (w.alloc (.cells #[.int .i64 k, .int .i64 n, .int .u64 (g : Int)] 26))) := (Below.refl _ _).alloc (Nat.le_refl _) _
  go_enter Try.func12, Try.ntmps12
  go_wp2_with fail
  refine (refSized_any _ _).mono ?_
  rintro _ _ ⟨rfl, rfl⟩
  cases hs : sizedB z with
  | false =>
    clear h hs
    go_wp2
    go_ret2
    exact ⟨rfl, HB.out⟩
  | true =>
    have hm : mayB k n = false := by rcases h with h | h; (rw [hs] at h; cases h); exact h
    have hn : ¬ (1 ≤ k ∧ k ≤ 5 ∧ 0 ≤ n ∧ n < 65536) := fun h => by
      simp [mayB, h] at hm
    clear h hs hm
    by_cases h1 : k < 1
    · clear hn
      go_wp2
      go_ret2
      exact ⟨rfl, HB.out⟩
    · have d1 : decide (k < 1) = false := decide_eq_false h1
      by_cases h2 : 5 < k
      · clear hn
        go_wp2
        go_ret2
        exact ⟨rfl, HB.out⟩
      · have d2 : decide (5 < k) = false := decide_eq_false h2
        by_cases h3 : n < 0
        · clear hn
          go_wp2
          go_ret2
          exact ⟨rfl, HB.out⟩
        · have d3 : decide (n < 0) = false := decide_eq_false h3
          have h4 : 65535 < n := by omega
          clear hn
          go_wp2
          go_ret2
          exact ⟨rfl, HB.out⟩
theorem refSeal_long (z k n : Int) (g : Nat) (a : Option Addr) (l cap : Nat) (w : World) (hs : sizedB z = true) (hm : mayB k n = true) (hl : z - 32 < l) :
    Calls Try.prog 12 #[.int .i64 z, .agg #[.int .i64 k, .int .i64 n, .int .u64 (g : Int)], .slice a l cap] w fun e w' => e = .returned (.tuple #[.slice none 0 0, .int .i64 31]) ∧ Below w.heap.size w w' := by
  have HB : Hid (Below w.heap.size w (w.alloc (.cells #[.int .i64 k, .int .i64 n, .int .u64 (g : Int)] 26))) := (Below.refl _ _).alloc (Nat.le_refl _) _
  obtain ⟨m1, m2, m3, m4⟩ := may_bounds hm
  have d1 : decide (k < 1) = false := decide_eq_false (by omega)
  have d2 : decide (5 < k) = false := decide_eq_false (by omega)
  have d3 : decide (n < 0) = false := decide_eq_false (by omega)
  have d4 : decide (65535 < n) = false := decide_eq_false (by omega)
  have hb := sized_bounds hs
  go_enter Try.func12, Try.ntmps12
  go_wp2_with fail
  refine (refSized_any _ _).mono ?_
  rintro _ _ ⟨rfl, rfl⟩
  rw [hs]
  go_wp2_with fail
  refine (refRoom_any _ _).mono ?_
  rintro _ _ ⟨rfl, rfl⟩
  rw [room_sized hs]
  clear hs hm
  go_wp2
  go_ret2
  exact ⟨rfl, HB.out⟩
set_option maxHeartbeats 800000 in
set_option maxRecDepth 100000 in
theorem refSeal_ok (s k n g l : Nat) (a : Option Addr) (cap : Nat) (p : List UInt8) (w : World) (hs : sizedB s = true) (hm : mayB k n = true) (hb : BytesAt w.heap.size w a p) (hl : p.length = l) (hp : l + 32 ≤ s) (na : a = none → cap = 0) :
    Calls Try.prog 12 #[.int .i64 (s : Int), .agg #[.int .i64 (k : Int), .int .i64 (n : Int), .int .u64 (g : Int)], .slice a l cap] w fun e w' => ∃ q c, e = .returned (.tuple #[.slice (some ⟨q, 0, none⟩) s c, .int .i64 0]) ∧ w'.ownsRow w.heap.size 5 1 (.slice (some ⟨q, 0, none⟩) s c) s ((sealed s k n g p).map encB) ∧ Below w.heap.size w w' := by
  subst hl
  have HP : Hid (BytesAt w.heap.size w a p) := hb
  have NA : Hid (a = none → cap = 0) := na
  have HB : Hid (Below w.heap.size w (w.alloc (.cells #[.int .i64 (k : Int), .int .i64 (n : Int), .int .u64 (g : Int)] 26))) := (Below.refl _ _).alloc (Nat.le_refl _) _
  obtain ⟨m1, m2, m3, m4⟩ := may_bounds hm
  have d1 : decide ((k : Int) < 1) = false := decide_eq_false (by omega)
  have d2 : decide (5 < (k : Int)) = false := decide_eq_false (by omega)
  have d3 : decide ((n : Int) < 0) = false := decide_eq_false (by omega)
  have d4 : decide (65535 < (n : Int)) = false := decide_eq_false (by omega)
  have hbd := sized_bounds hs
  clear hb na
  go_enter Try.func12, Try.ntmps12
  go_wp2_with fail
  refine (refSized_any _ _).mono ?_
  rintro _ _ ⟨rfl, rfl⟩
  rw [hs]
  go_wp2_with fail
  refine (refRoom_any _ _).mono ?_
  rintro _ _ ⟨rfl, rfl⟩
  rw [room_sized hs]
  have hlong : ¬ ((s : Int) - 32 < (p.length : Int)) := by omega
  have HMM : Hid ((k : Int) ≤ 5 ∧ (n : Int) < 65536 ∧ (s : Int) ≤ 4096) := ⟨m2, m4, hbd.2⟩
  clear hs hm d1 d2 d3 d4 m1 m2 m3 m4
  go_wp2_with fail
  refine (refBytes_any _ s k n g a cap p (HP.out.here HB.out) hp (by have := HMM.out; omega) NA.out (by have := HMM.out; omega) (by have := HMM.out; omega)).mono ?_
  rintro _ w2 ⟨q, c, rfl, ho, hb2⟩
  have HO : Hid (w2.ownsRow w.heap.size 5 1 (.slice (some ⟨q, 0, none⟩) s c) s ((sealed s k n g p).map encB)) := own_keep ho rfl HB.out.size
  have HB2 : Hid (Below w.heap.size w w2) := HB.out.trans (hb2.mono HB.out.size)
  clear ho hb2
  go_wp2
  go_ret2
  exact ⟨q, c, rfl, HO.out, HB2.out⟩
end Go.Proofs.Ytafkimhnllnopaa
