/- The law PageSeals's walk. -/
import Derived.Test.YtafkimhnllnopaaSealGen
namespace Go.Proofs.Ytafkimhnllnopaa
open Go.RowKit

theorem conv_own {w : World} {base n : Nat} {v : Value} {bs : List UInt8} (h : w.ownsRow base 5 1 v n (bs.map encB)) : (convert 27 9 v).run Try.prog w = .ok (.string (strB bs)) w := by
  obtain ⟨a, c, rfl, hb, hl, _⟩ := bytes_own h
  exact conv_any _ _ hb hl
theorem own_here {w w' : World} {base e n : Nat} {v : Value} {xs : List Value} (h : w.ownsRow base e 1 v n xs) (hb : Below w.heap.size w w') : w'.ownsRow base e 1 v n xs := own_same h fun k _ hk => hb.block k hk
def FreshI (items : List (Value × List UInt8)) (S : Nat) : Prop := ∀ (i : Nat) v bs k, items[i]? = some (v, bs) → v.ownBlock = some k → k < S
theorem FreshI.more {items : List (Value × List UInt8)} {S S' : Nat} (h : FreshI items S) (hS : S ≤ S') (v : Value) (bs : List UInt8) (hv : ∀ k, v.ownBlock = some k → k < S') : FreshI (items ++ [(v, bs)]) S' := fun i v' bs' k hi hk => by
  rcases items_at _ _ _ _ hi with ⟨_, h'⟩ | ⟨_, h'⟩
  · have := h i v' bs' k h' hk; omega
  · cases h'; exact hv k hk
theorem FreshI.new {items : List (Value × List UInt8)} {S : Nat} (h : FreshI items S) (v : Value) (hv : ∀ k, v.ownBlock = some k → S ≤ k) : ∀ (i : Nat) v' bs' k, items[i]? = some (v', bs') → v.ownBlock = some k → v'.ownBlock ≠ some k := fun i v' bs' k hi hk hk' => by
  have := h i v' bs' k hi hk'
  have := hv k hk
  omega
theorem book_new (w : World) (base b : Nat) (h : w.heap[b]? = some (.cells #[.slice none 0 0, .slice none 0 0] 31 (0, 0))) (hb : base ≤ b) : Book w base b (.slice none 0 0) (.slice none 0 0) [] [] :=
  ⟨h, hb, World.ownsRow_nil _ _ _ _, World.ownsRow_nil _ _ _ _, (fun k hk => by cases hk), (fun i v bs hi => by simp at hi), (fun i v bs u hi => by simp at hi), (fun i j v bs v' bs' k hi => by simp at hi)⟩

set_option maxHeartbeats 3200000 in
set_option maxRecDepth 100000 in
theorem seals_walk (w : World) (z k n : Int) (g : Nat) (a a2 : Option Addr) (cap cap2 : Nat) (bs os : List UInt8) (hb : BytesAt w.heap.size w a bs) (hb2 : BytesAt w.heap.size w a2 os) (na : a = none → cap = 0) (na2 : a2 = none → cap2 = 0) (hlen : bs.length ≤ 140737488351232) :
    Calls Try.prog 4 #[.int .i64 z, .agg #[.int .i64 k, .int .i64 n, .int .u64 (g : Int)], .slice a bs.length cap, .slice a2 os.length cap2] w fun e w' => e = .returned (.bool true) ∧ Below w.heap.size w w' := by
  have HB : Hid (BytesAt w.heap.size w a bs) := hb
  have HB2 : Hid (BytesAt w.heap.size w a2 os) := hb2
  have NA : Hid (a = none → cap = 0) := na
  have NA2 : Hid (a2 = none → cap2 = 0) := na2
  have hb0 : Below w.heap.size w (w.alloc (.cells #[.int .i64 k, .int .i64 n, .int .u64 (g : Int)] 26)) := (Below.refl _ _).alloc (Nat.le_refl _) _
  have B0 : Hid _ := hb0
  have X0 : Hid _ := heap_alloc_last w (.cells #[.int .i64 k, .int .i64 n, .int .u64 (g : Int)] 26)
  obtain ⟨hB, hhB⟩ : ∃ hB, Hid (hB = w.heap.size) := ⟨_, rfl⟩
  clear hb hb2 na na2 hb0
  go_enter Try.func4, Try.ntmps4
  go_wp2_with fail
  refine (alive_any _).mono ?_
  rintro _ w1 ⟨rfl, hb1⟩
  have B1 : Hid (Below w.heap.size w w1) := B0.out.trans (hb1.mono B0.out.size)
  have X1 : Hid (w1.heap[w.heap.size]? = some (.cells #[.int .i64 k, .int .i64 n, .int .u64 (g : Int)] 26 (0, 0))) := by show _ = _; rw [hb1.block _ (by simp)]; exact X0.out
  clear hb1
  rw [← hhB.out] at X1 ⊢
  go_upto_region 3 with fail
  obtain ⟨w2, hw2⟩ : ∃ w2, w2 = w1.alloc (.cells #[.slice none 0 0, .slice none 0 0] 31) := ⟨_, rfl⟩
  have b12 : Below w1.heap.size w1 w2 := by rw [hw2]; exact (Below.refl _ _).alloc (Nat.le_refl _) _
  have K2 : Hid (Book w2 w.heap.size w1.heap.size (.slice none 0 0) (.slice none 0 0) [] []) := book_new w2 _ _ (by rw [hw2]; exact heap_alloc_last _ _) B1.out.size
  have B2 : Hid (Below w.heap.size w w2) := B1.out.trans (b12.mono B1.out.size)
  have X2 : Hid (w2.heap[hB]? = some (.cells #[.int .i64 k, .int .i64 n, .int .u64 (g : Int)] 26 (0, 0))) := by show _ = _; rw [b12.block _ (Array.getElem?_eq_some_iff.1 X1.out).1]; exact X1.out
  rw [← hw2]
  obtain ⟨bB, hbB⟩ : ∃ bB, bB = w1.heap.size := ⟨_, rfl⟩
  rw [← hbB] at K2 ⊢
  clear hw2 b12 hbB
  go_wp2_with fail
  refine (lent_any w2 a cap bs (HB.out.here B2.out) (by omega)).mono ?_
  rintro _ w3 ⟨rfl, hr3, hb3⟩
  have K3 : Hid (Book w3 w.heap.size bB (.slice none 0 0) (.slice none 0 0) [] []) := K2.out.here hb3
  have B3 : Hid (Below w.heap.size w w3) := B2.out.trans (hb3.mono B2.out.size)
  have hx3 : w3.heap[hB]? = some (.cells #[.int .i64 k, .int .i64 n, .int .u64 (g : Int)] 26 (0, 0)) := by rw [hb3.block _ (Array.getElem?_eq_some_iff.1 X2.out).1]; exact X2.out
  have X3 : Hid _ := hx3
  obtain ⟨gc, hgc⟩ : ∃ gc, gc = w2.heap.size := ⟨_, rfl⟩
  rw [← hgc] at hr3 ⊢
  have R3 : Hid (RowIs w3 gc (lentL bs 40)) := hr3
  have HGC : Hid (w.heap.size ≤ gc ∧ bB < gc ∧ hB < gc) := by rw [hgc]; exact ⟨B2.out.size, K2.out.lay.low', (Array.getElem?_eq_some_iff.1 X2.out).1⟩
  obtain ⟨k0, k1, k2⟩ := head_cells hx3
  have LT : Hid ((lentL bs 40).take bs.length = bs) := by show _ = _; simp [lentL]
  clear hr3 hb3 hx3 hgc
  -- x
  go_wp2_with fail
  refine (seal_gen w3 z k n g bs.length _ _ bs (by have := R3.out.bytes.take bs.length; rw [LT.out] at this; exact this) rfl).mono ?_
  rintro _ w4 ⟨vx, rfl, hvx, hb4⟩
  have VX4 : Hid (w4.ownsRow w3.heap.size 5 1 vx (sealB z k n g bs).length ((sealB z k n g bs).map encB)) := hvx
  have K4 : Hid (Book w4 w.heap.size bB (.slice none 0 0) (.slice none 0 0) [] []) := K3.out.here hb4
  have B4 : Hid (Below w.heap.size w w4) := B3.out.trans (hb4.mono B3.out.size)
  have hx4 : w4.heap[hB]? = some (.cells #[.int .i64 k, .int .i64 n, .int .u64 (g : Int)] 26 (0, 0)) := by rw [hb4.block _ (Array.getElem?_eq_some_iff.1 X3.out).1]; exact X3.out
  have X4 : Hid _ := hx4
  have R4 : Hid (RowIs w4 gc (lentL bs 40)) := R3.out.here hb4
  have S34 : Hid (w3.heap.size ≤ w4.heap.size) := hb4.size
  clear k0 k1 k2 hvx hb4
  obtain ⟨k0, k1, k2⟩ := head_cells hx4
  clear hx4
  -- o
  go_wp2_with fail
  refine (seal_gen w4 z k n g os.length _ _ os (HB2.out.here B4.out) rfl).mono ?_
  rintro _ w5 ⟨vo, rfl, hvo, hb5⟩
  have VO5 : Hid (w5.ownsRow w4.heap.size 5 1 vo (sealB z k n g os).length ((sealB z k n g os).map encB)) := hvo
  have VX5 : Hid (w5.ownsRow w3.heap.size 5 1 vx (sealB z k n g bs).length ((sealB z k n g bs).map encB)) := own_here VX4.out hb5
  have K5 : Hid (Book w5 w.heap.size bB (.slice none 0 0) (.slice none 0 0) [] []) := K4.out.here hb5
  have B5 : Hid (Below w.heap.size w w5) := B4.out.trans (hb5.mono B4.out.size)
  have hx5 : w5.heap[hB]? = some (.cells #[.int .i64 k, .int .i64 n, .int .u64 (g : Int)] 26 (0, 0)) := by rw [hb5.block _ (Array.getElem?_eq_some_iff.1 X4.out).1]; exact X4.out
  have X5 : Hid _ := hx5
  have R5 : Hid (RowIs w5 gc (lentL bs 40)) := R4.out.here hb5
  have S45 : Hid (w4.heap.size ≤ w5.heap.size) := hb5.size
  clear k0 k1 k2 hvo hb5
  obtain ⟨k0, k1, k2⟩ := head_cells hx5
  clear hx5
  -- y
  go_wp2_with fail
  refine (seal_gen w5 z k n g bs.length _ _ bs (by have := R5.out.bytes.take bs.length; rw [LT.out] at this; exact this) rfl).mono ?_
  rintro _ w6 ⟨vy, rfl, hvy, hb6⟩
  have VY6 : Hid (w6.ownsRow w5.heap.size 5 1 vy (sealB z k n g bs).length ((sealB z k n g bs).map encB)) := hvy
  have VO6 : Hid (w6.ownsRow w4.heap.size 5 1 vo (sealB z k n g os).length ((sealB z k n g os).map encB)) := own_here VO5.out hb6
  have VX6 : Hid (w6.ownsRow w3.heap.size 5 1 vx (sealB z k n g bs).length ((sealB z k n g bs).map encB)) := own_here VX5.out hb6
  have K6 : Hid (Book w6 w.heap.size bB (.slice none 0 0) (.slice none 0 0) [] []) := K5.out.here hb6
  have B6 : Hid (Below w.heap.size w w6) := B5.out.trans (hb6.mono B5.out.size)
  have hx6 : w6.heap[hB]? = some (.cells #[.int .i64 k, .int .i64 n, .int .u64 (g : Int)] 26 (0, 0)) := by rw [hb6.block _ (Array.getElem?_eq_some_iff.1 X5.out).1]; exact X5.out
  have X6 : Hid _ := hx6
  have R6 : Hid (RowIs w6 gc (lentL bs 40)) := R5.out.here hb6
  have S56 : Hid (w5.heap.size ≤ w6.heap.size) := hb6.size
  clear k0 k1 k2 hvy hb6
  obtain ⟨k0, k1, k2⟩ := head_cells hx6
  clear hx6
  -- want
  go_wp2_with fail
  refine (refSeal_gen w6 z k n g bs.length a cap bs (HB.out.here B6.out) rfl NA.out).mono ?_
  rintro _ w7 ⟨vw, rfl, hvw, hb7⟩
  have VW7 : Hid (w7.ownsRow w6.heap.size 5 1 vw (sealB z k n g bs).length ((sealB z k n g bs).map encB)) := hvw
  have B67 : Hid (Below w6.heap.size w6 w7) := hb7
  have B7 : Hid (Below w.heap.size w w7) := B6.out.trans (hb7.mono B6.out.size)
  have hx7 : w7.heap[hB]? = some (.cells #[.int .i64 k, .int .i64 n, .int .u64 (g : Int)] 26 (0, 0)) := by rw [hb7.block _ (Array.getElem?_eq_some_iff.1 X6.out).1]; exact X6.out
  have X7 : Hid _ := hx7
  clear k0 k1 k2 hvw hb7
  obtain ⟨k0, k1, k2⟩ := head_cells hx7
  clear hx7
  -- others
  go_wp2_with fail
  refine (refSeal_gen w7 z k n g os.length a2 cap2 os (HB2.out.here B7.out) rfl NA2.out).mono ?_
  rintro _ w8 ⟨vq, rfl, hvq, hb8⟩
  have b68 : Below w6.heap.size w6 w8 := B67.out.trans (hb8.mono B67.out.size)
  have B8 : Hid (Below w.heap.size w w8) := B7.out.trans (hb8.mono B7.out.size)
  have VX8 : Hid (w8.ownsRow w3.heap.size 5 1 vx (sealB z k n g bs).length ((sealB z k n g bs).map encB)) := own_here VX6.out b68
  have VO8 : Hid (w8.ownsRow w4.heap.size 5 1 vo (sealB z k n g os).length ((sealB z k n g os).map encB)) := own_here VO6.out b68
  have VY8 : Hid (w8.ownsRow w5.heap.size 5 1 vy (sealB z k n g bs).length ((sealB z k n g bs).map encB)) := own_here VY6.out b68
  have K8 : Hid (Book w8 w.heap.size bB (.slice none 0 0) (.slice none 0 0) [] []) := K6.out.here b68
  have R8 : Hid (RowIs w8 gc (lentL bs 40)) := R6.out.here b68
  have S68 : Hid (w6.heap.size ≤ w8.heap.size) := b68.size
  have X8 : Hid (w8.heap[hB]? = some (.cells #[.int .i64 k, .int .i64 n, .int .u64 (g : Int)] 26 (0, 0))) := by show _ = _; rw [hb8.block _ (Array.getElem?_eq_some_iff.1 X7.out).1]; exact X7.out
  have cx := conv_own VX8.out
  have co := conv_own VO8.out
  have cy := conv_own VY8.out
  have cw := conv_own (own_here VW7.out hb8)
  have cq := conv_own hvq
  clear k0 k1 k2 hvq hb8 b68
  have hE1 : ∃ E, E = sealE z k n bs.length := ⟨_, rfl⟩
  obtain ⟨E1, hE1⟩ := hE1
  rw [← hE1]
  clear hE1
  go_wp2_with fail
  refine (room_any z w8).mono ?_
  rintro _ wx ⟨rfl, hwx⟩
  rw [hwx]
  clear hwx
  go_wp2_with fail
  refine (refRoom_any z w8).mono ?_
  rintro _ wx2 ⟨rfl, hwx⟩
  rw [hwx]
  clear hwx
  generalize roomOf z = rm
  go_wp2_with fail
  clear cx co cy cw cq
  -- back
  refine (back_any w.heap.size gc w w8 a cap bs (HB.out.below B8.out) HGC.out.1 B8.out R8.out (by omega)).mono ?_
  rintro _ w9 ⟨rfl, hr9, hb9, hoth, hsz9⟩
  have R9 : Hid (RowIs w9 gc (overL (lentL bs 40) (bs.length + 40))) := hr9
  have B9 : Hid (Below w.heap.size w w9) := hb9
  have S89 : Hid (w9.heap.size = w8.heap.size) := hsz9
  have gcl : gc < w3.heap.size := R3.out.lt
  have VX9 : Hid (w9.ownsRow w3.heap.size 5 1 vx (sealB z k n g bs).length ((sealB z k n g bs).map encB)) := own_same VX8.out fun q hq _ => hoth q (by have := (own_type VX8.out q hq).2.1; omega)
  have VO9 : Hid (w9.ownsRow w4.heap.size 5 1 vo (sealB z k n g os).length ((sealB z k n g os).map encB)) := own_same VO8.out fun q hq _ => hoth q (by have := (own_type VO8.out q hq).2.1; have := S34.out; omega)
  have VY9 : Hid (w9.ownsRow w5.heap.size 5 1 vy (sealB z k n g bs).length ((sealB z k n g bs).map encB)) := own_same VY8.out fun q hq _ => hoth q (by have := (own_type VY8.out q hq).2.1; have := S34.out; have := S45.out; omega)
  have K9 : Hid (Book w9 w.heap.size bB (.slice none 0 0) (.slice none 0 0) [] []) := K8.out.moved (hoth bB (by have := HGC.out; omega)) (fun q hq => by cases hq) (fun q hq => by cases hq) (fun i v b q hi => by simp at hi) (fun i u q hi => by simp at hi)
  have hx9 : w9.heap[hB]? = some (.cells #[.int .i64 k, .int .i64 n, .int .u64 (g : Int)] 26 (0, 0)) := by rw [hoth hB (by have := HGC.out; omega)]; exact X8.out
  have X9 : Hid _ := hx9
  obtain ⟨P2, hP2⟩ : ∃ P2, Hid (P2 = (overL (lentL bs 40) (bs.length + 40)).take bs.length) := ⟨_, rfl⟩
  have LP2 : Hid (P2.length = bs.length) := by show _ = _; rw [hP2.out, List.length_take, overL_length, lentL_length _ _ (by omega)]; omega
  have Y9 : Hid (BytesAt w9.heap.size w9 (some ⟨gc, 0, none⟩) P2) := by rw [hP2.out]; exact hr9.bytes.take bs.length
  have hgl9 : gc < w9.heap.size := hr9.lt
  obtain ⟨k0, k1, k2⟩ := head_cells hx9
  clear hr9 hb9 hoth hsz9 hx9 gcl
  go_wp2_with fail
  refine (seal_gen w9 z k n g bs.length _ _ P2 Y9.out LP2.out).mono ?_
  rintro _ w10 ⟨vz, rfl, hvz, hb10⟩
  have VZ10 : Hid (w10.ownsRow w9.heap.size 5 1 vz (sealB z k n g P2).length ((sealB z k n g P2).map encB)) := hvz
  have VX10 : Hid (w10.ownsRow w3.heap.size 5 1 vx (sealB z k n g bs).length ((sealB z k n g bs).map encB)) := own_here VX9.out hb10
  have VO10 : Hid (w10.ownsRow w4.heap.size 5 1 vo (sealB z k n g os).length ((sealB z k n g os).map encB)) := own_here VO9.out hb10
  have VY10 : Hid (w10.ownsRow w5.heap.size 5 1 vy (sealB z k n g bs).length ((sealB z k n g bs).map encB)) := own_here VY9.out hb10
  have K10 : Hid (Book w10 w.heap.size bB (.slice none 0 0) (.slice none 0 0) [] []) := K9.out.here hb10
  have B10 : Hid (Below w.heap.size w w10) := B9.out.trans (hb10.mono B9.out.size)
  have Y10 : Hid (BytesAt w10.heap.size w10 (some ⟨gc, 0, none⟩) P2) := Y9.out.here hb10
  have hx10 : w10.heap[hB]? = some (.cells #[.int .i64 k, .int .i64 n, .int .u64 (g : Int)] 26 (0, 0)) := by rw [hb10.block _ (Array.getElem?_eq_some_iff.1 X9.out).1]; exact X9.out
  have X10 : Hid _ := hx10
  have hlB : hB < w10.heap.size := (Array.getElem?_eq_some_iff.1 hx10).1
  clear k0 k1 k2 hvz hb10
  obtain ⟨k0, k1, k2⟩ := head_cells hx10
  have hcap3 : (bs.length : Int) ≤ (bs.length : Int) + 40 := by omega
  clear hx10
  go_wp2_with fail
  go_region_held_law (fun W => W.cell? ⟨hB, 0, none⟩ = some (.int .i64 k) ∧ W.cell? ⟨hB, 1, none⟩ = some (.int .i64 n) ∧ W.cell? ⟨hB, 2, none⟩ = some (.int .u64 (g : Int))) (go_keep)
    (first
      | (refine step_append_bytes (by rfl) _ _ (by rfl) w10.heap.size w10.heap.size 0 0 [] (by rfl) (by exact owns_empty w10) (some ⟨gc, 0, none⟩) (bs.length + 40) bs.length P2 LP2.out (by rfl) (by exact Y10.out.here (((Below.refl w10.heap.size w10).alloc (Nat.le_refl _) (.cells #[] 5)).drew)) (fun h => by cases h) (by omega) (by simp) ?_
         intro g3 c3 w11 ho11 hg11
         have hb11 : Below w10.heap.size w10 w11 := (((Below.refl w10.heap.size w10).alloc (Nat.le_refl _) (.cells #[] 5)).drew).grown hg11 (by simp) (fun k e => by cases e; exact Nat.le_refl _)
         have O11 : Hid (w11.ownsRow w10.heap.size 5 1 (.slice (some ⟨g3, 0, none⟩) (0 + bs.length) c3) (0 + bs.length) (([] ++ P2).map encB)) := ho11
         have B11 : Hid (Below w10.heap.size w10 w11) := hb11
         have u0 : w11.cell? ⟨hB, 0, none⟩ = some (.int .i64 k) := by rw [hb11.cell hlB]; exact k0
         have u1 : w11.cell? ⟨hB, 1, none⟩ = some (.int .i64 n) := by rw [hb11.cell hlB]; exact k1
         have u2 : w11.cell? ⟨hB, 2, none⟩ = some (.int .u64 (g : Int)) := by rw [hb11.cell hlB]; exact k2
         clear ho11 hg11 hb11)
      | (go_at_call 12; refine (refSeal_gen w11 z k n g bs.length (some ⟨g3, 0, none⟩) c3 P2 (by have := bytes_row O11.out; rw [List.nil_append] at this; exact this) LP2.out (fun h => by cases h)).mono ?_
         rintro _ w12 ⟨vn, rfl, hvn, hb12⟩
         have t0 : w12.cell? ⟨hB, 0, none⟩ = some (.int .i64 k) := by rw [hb12.cell (Nat.lt_of_lt_of_le hlB B11.out.size)]; exact u0
         have t1 : w12.cell? ⟨hB, 1, none⟩ = some (.int .i64 n) := by rw [hb12.cell (Nat.lt_of_lt_of_le hlB B11.out.size)]; exact u1
         have t2 : w12.cell? ⟨hB, 2, none⟩ = some (.int .u64 (g : Int)) := by rw [hb12.cell (Nat.lt_of_lt_of_le hlB B11.out.size)]; exact u2
         have B1012 : Hid (Below w10.heap.size w10 w12) := B11.out.trans (hb12.mono B11.out.size)
         have cn := conv_own hvn
         clear hvn hb12))
  have cz := conv_own (own_here VZ10.out B1012.out)
  have hE2 : ∃ E, E = sealE z k n bs.length := ⟨_, rfl⟩
  obtain ⟨E2, hE2⟩ := hE2
  rw [← hE2]
  clear hE2 k0 k1 k2 u0 u1 u2 t0 t1 t2
  have K12 : Hid (Book w12 w.heap.size bB (.slice none 0 0) (.slice none 0 0) [] []) := K10.out.here B1012.out
  have B12 : Hid (Below w.heap.size w w12) := B10.out.trans (B1012.out.mono B10.out.size)
  have s3 : w.heap.size ≤ w3.heap.size := B3.out.size
  have s4 := S34.out
  have s5 := S45.out
  have s6 := S56.out
  have s8 := S68.out
  have s9 := S89.out
  have VX12 : Hid (w12.ownsRow w.heap.size 5 1 vx (sealB z k n g bs).length ((sealB z k n g bs).map encB)) := own_mono (own_here VX10.out B1012.out) (by omega)
  have VO12 : Hid (w12.ownsRow w.heap.size 5 1 vo (sealB z k n g os).length ((sealB z k n g os).map encB)) := own_mono (own_here VO10.out B1012.out) (by omega)
  have VY12 : Hid (w12.ownsRow w.heap.size 5 1 vy (sealB z k n g bs).length ((sealB z k n g bs).map encB)) := own_mono (own_here VY10.out B1012.out) (by omega)
  have VZ12 : Hid (w12.ownsRow w.heap.size 5 1 vz (sealB z k n g P2).length ((sealB z k n g P2).map encB)) := own_mono (own_here VZ10.out B1012.out) (by omega)
  have FX : Hid (FreshI ([] ++ [(vx, sealB z k n g bs)]) w4.heap.size) := FreshI.more (S := 0) (fun i v b q hi => by simp at hi) (Nat.zero_le _) vx _ (fun q hq => (own_type VX4.out q hq).1)
  have FO : Hid (FreshI ([] ++ [(vx, sealB z k n g bs)] ++ [(vo, sealB z k n g os)]) w5.heap.size) := FX.out.more s5 vo _ (fun q hq => (own_type VO5.out q hq).1)
  have FY : Hid (FreshI ([] ++ [(vx, sealB z k n g bs)] ++ [(vo, sealB z k n g os)] ++ [(vy, sealB z k n g bs)]) w6.heap.size) := FO.out.more s6 vy _ (fun q hq => (own_type VY6.out q hq).1)
  have NO : Hid (∀ q, vo.ownBlock = some q → w4.heap.size ≤ q) := fun q hq => (own_type VO5.out q hq).2.1
  have NY : Hid (∀ q, vy.ownBlock = some q → w5.heap.size ≤ q) := fun q hq => (own_type VY6.out q hq).2.1
  have NZ : Hid (∀ q, vz.ownBlock = some q → w6.heap.size ≤ q) := fun q hq => by have := (own_type VZ10.out q hq).2.1; omega
  have L1 : Hid ((sealB z k n g bs).length ≤ 1099511627776) := Nat.le_trans (sealB_len z k n g bs) (by decide)
  have L2 : Hid ((sealB z k n g os).length ≤ 1099511627776) := Nat.le_trans (sealB_len z k n g os) (by decide)
  have L3 : Hid ((sealB z k n g P2).length ≤ 1099511627776) := Nat.le_trans (sealB_len z k n g P2) (by decide)
  clear s3 s4 s5 s6 s8 s9 hlB hgl9
  go_wp2_with fail
  clear cn cz
  refine (keep_any w12 w.heap.size bB _ _ [] [] vx (sealB z k n g bs) K12.out VX12.out (fun i v' b' q hi => by simp at hi) L1.out (by simp) B12.out.size).mono ?_
  rintro _ w13 ⟨rfl, ⟨vl1, vw1, was1, hk13⟩, hkb13, hb13⟩
  have K13 : Hid (Book w13 w.heap.size bB vl1 vw1 ([] ++ [(vx, sealB z k n g bs)]) was1) := hk13
  have VO13 : Hid (w13.ownsRow w.heap.size 5 1 vo (sealB z k n g os).length ((sealB z k n g os).map encB)) := hkb13.bytes K12.out VO12.out
  have VY13 : Hid (w13.ownsRow w.heap.size 5 1 vy (sealB z k n g bs).length ((sealB z k n g bs).map encB)) := hkb13.bytes K12.out VY12.out
  have VZ13 : Hid (w13.ownsRow w.heap.size 5 1 vz (sealB z k n g P2).length ((sealB z k n g P2).map encB)) := hkb13.bytes K12.out VZ12.out
  have B13 : Hid (Below w.heap.size w w13) := B12.out.trans hb13
  clear hk13 hkb13 hb13
  go_wp2_with fail
  refine (keep_any w13 w.heap.size bB vl1 vw1 _ was1 vo (sealB z k n g os) K13.out VO13.out (FX.out.new vo NO.out) L2.out (by simp) B13.out.size).mono ?_
  rintro _ w14 ⟨rfl, ⟨vl2, vw2, was2, hk14⟩, hkb14, hb14⟩
  have K14 : Hid (Book w14 w.heap.size bB vl2 vw2 ([] ++ [(vx, sealB z k n g bs)] ++ [(vo, sealB z k n g os)]) was2) := hk14
  have VY14 : Hid (w14.ownsRow w.heap.size 5 1 vy (sealB z k n g bs).length ((sealB z k n g bs).map encB)) := hkb14.bytes K13.out VY13.out
  have VZ14 : Hid (w14.ownsRow w.heap.size 5 1 vz (sealB z k n g P2).length ((sealB z k n g P2).map encB)) := hkb14.bytes K13.out VZ13.out
  have B14 : Hid (Below w.heap.size w w14) := B13.out.trans hb14
  clear hk14 hkb14 hb14
  go_wp2_with fail
  refine (keep_any w14 w.heap.size bB vl2 vw2 _ was2 vy (sealB z k n g bs) K14.out VY14.out (FO.out.new vy NY.out) L1.out (by simp) B14.out.size).mono ?_
  rintro _ w15 ⟨rfl, ⟨vl3, vw3, was3, hk15⟩, hkb15, hb15⟩
  have K15 : Hid (Book w15 w.heap.size bB vl3 vw3 ([] ++ [(vx, sealB z k n g bs)] ++ [(vo, sealB z k n g os)] ++ [(vy, sealB z k n g bs)]) was3) := hk15
  have VZ15 : Hid (w15.ownsRow w.heap.size 5 1 vz (sealB z k n g P2).length ((sealB z k n g P2).map encB)) := hkb15.bytes K14.out VZ14.out
  have B15 : Hid (Below w.heap.size w w15) := B14.out.trans hb15
  clear hk15 hkb15 hb15
  go_wp2_with fail
  refine (keep_any w15 w.heap.size bB vl3 vw3 _ was3 vz (sealB z k n g P2) K15.out VZ15.out (FY.out.new vz NZ.out) L3.out (by simp) B15.out.size).mono ?_
  rintro _ w16 ⟨rfl, ⟨vl4, vw4, was4, hk16⟩, hkb16, hb16⟩
  have K16 : Hid (Book w16 w.heap.size bB vl4 vw4 ([] ++ [(vx, sealB z k n g bs)] ++ [(vo, sealB z k n g os)] ++ [(vy, sealB z k n g bs)] ++ [(vz, sealB z k n g P2)]) was4) := hk16
  have B16 : Hid (Below w.heap.size w w16) := B15.out.trans hb16
  have LL : Hid (∀ (i : Nat) v b, ([] ++ [(vx, sealB z k n g bs)] ++ [(vo, sealB z k n g os)] ++ [(vy, sealB z k n g bs)] ++ [(vz, sealB z k n g P2)])[i]? = some (v, b) → b.length ≤ 1099511627776) := fun i v b hi => by
    have hm := List.mem_of_getElem? hi
    simp at hm
    rcases hm with ⟨_, rfl⟩ | ⟨_, rfl⟩ | ⟨_, rfl⟩ | ⟨_, rfl⟩
    · exact L1.out
    · exact L2.out
    · exact L1.out
    · exact L3.out
  clear hk16 hkb16 hb16
  go_wp2_with fail
  refine (ends_any w16 w.heap.size bB vl4 vw4 _ was4 K16.out B16.out.size (by simp) LL.out).mono ?_
  rintro _ w17 ⟨rfl, hb17⟩
  have B17 : Hid (Below w.heap.size w w17) := B16.out.trans hb17
  clear hb17
  go_wp2
  go_ret
  exact ⟨rfl, B17.out⟩
end Go.Proofs.Ytafkimhnllnopaa
