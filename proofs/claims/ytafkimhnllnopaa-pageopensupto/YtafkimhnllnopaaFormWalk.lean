/- The law PageForm's walk. -/
import Derived.Test.YtafkimhnllnopaaAlive
namespace Go.Proofs.Ytafkimhnllnopaa
open Go.RowKit

theorem seal_as (s k n g l : Nat) (z : Int) (a : Option Addr) (cap : Nat) (p : List UInt8) (w : World) (hz : z = (s : Int)) (hs : sizedB s = true) (hm : mayB k n = true) (hb : BytesAt w.heap.size w a p) (hl : p.length = l) (hp : l + 32 ≤ s) :
    Calls Try.prog 11 #[.int .i64 z, .agg #[.int .i64 (k : Int), .int .i64 (n : Int), .int .u64 (g : Int)], .slice a l cap] w fun e w' => ∃ q, e = .returned (.tuple #[.slice (some ⟨q, 0, none⟩) s s, .int .i64 0]) ∧ w.heap.size ≤ q ∧ RowIs w' q (sealed s k n g p) ∧ Below w.heap.size w w' := by
  subst hl
  subst hz
  exact seal_ok s k n g a cap p w hs hm hb hp
theorem openE_cases (bs : List UInt8) (number : Int) : openE bs number = 0 ∨ openE bs number = 32 ∨ openE bs number = 33 ∨ openE bs number = 34 := by
  unfold openE
  split
  · split
    · split <;> simp
    · simp
  · simp
theorem openE_zero {bs : List UInt8} {number : Int} (h : openE bs number = 0) : formB bs = true ∧ sumB bs = true ∧ (numAt bs : Int) = number := by
  unfold openE at h
  split at h
  · rename_i h1
    split at h
    · rename_i h2
      split at h
      · rename_i h3
        exact ⟨h1, h2, h3⟩
      · cases h
    · cases h
  · cases h

set_option maxHeartbeats 1600000 in
set_option maxRecDepth 100000 in
theorem form_walk (w : World) (a : Option Addr) (cap : Nat) (bs : List UInt8) (number : Int) (hb : BytesAt w.heap.size w a bs) (hcap : bs.length ≤ cap) (hlen : bs.length ≤ 140737488355328) :
    Calls Try.prog 7 #[.slice a bs.length cap, .int .i64 number] w fun e w' => e = .returned (.bool true) ∧ Below w.heap.size w w' := by
  have HB : Hid (BytesAt w.heap.size w a bs) := hb
  clear hb
  go_enter Try.func7, Try.ntmps7
  go_wp2_with fail
  refine (alive_any w).mono ?_
  rintro _ w1 ⟨rfl, hb1⟩
  have HB1 : Hid (Below w.heap.size w w1) := hb1
  clear hb1
  go_wp2_with fail
  refine (open_any w1 a cap bs number (HB.out.here HB1.out) hcap hlen).mono ?_
  rintro _ w2 ⟨hb2, hor⟩
  have HB2 : Hid (Below w.heap.size w w2) := HB1.out.trans (hb2.mono HB1.out.size)
  clear hb2
  unfold headV at hor
  rcases hor with ⟨hne, rfl⟩ | ⟨hz, q, c, rfl, hown⟩
  · have hE := openE_cases bs number
    generalize openE bs number = E at hne hE ⊢
    have h1 : (E == 0) = false := by rw [beq_eq_false_iff_ne]; exact hne
    have h2 : (E != 0) = true := by simp [bne, h1]
    clear hne hE
    go_wp2
    go_ret
    exact ⟨rfl, HB2.out.alloc HB2.out.size _⟩
  · obtain ⟨hf, hs, hn⟩ := openE_zero hz
    obtain ⟨_, e2, e3, e4, e5, e6⟩ := form_body hf
    have HBS : Hid (sealed bs.length (kindAt bs) (numAt bs) (genAt bs) (payOf bs) = bs) := (form_sealed hf hs).symm
    have HE2 : Hid ((payOf bs).length = lenAt bs) := e2
    have HE4 : Hid (sizedB bs.length = true) := e4
    have HE5 : Hid (mayB (kindAt bs) (numAt bs) = true) := e5
    have HOWN : Hid (w2.ownsRow w1.heap.size 5 1 (.slice (some ⟨q, 0, none⟩) (lenAt bs) c) (lenAt bs) ((payOf bs).map encB)) := hown
    subst hn
    clear hz hf hs hown e2 e4 e5
    go_upto_region 5 with fail
    obtain ⟨w3, hw3⟩ : ∃ w3, w3 = w2.alloc (.cells #[.int .i64 (kindAt bs : Int), .int .i64 (numAt bs : Int), .int .u64 (genAt bs : Int)] 26) := ⟨_, rfl⟩
    rw [← hw3]
    have hb3 : Below w2.heap.size w2 w3 := by rw [hw3]; exact (Below.refl _ _).alloc (Nat.le_refl _) _
    have hx3 : w3.heap[w2.heap.size]? = some (.cells #[.int .i64 (kindAt bs : Int), .int .i64 (numAt bs : Int), .int .u64 (genAt bs : Int)] 26 (0, 0)) := by rw [hw3]; exact heap_alloc_last _ _
    have HX3 : Hid _ := hx3
    have HPAY : Hid (BytesAt w3.heap.size w3 (some ⟨q, 0, none⟩) (payOf bs)) := (bytes_row HOWN.out).here hb3
    have HB3 : Hid (Below w.heap.size w w3) := HB2.out.trans (hb3.mono HB2.out.size)
    obtain ⟨b3, hb3e⟩ : ∃ b3, b3 = w2.heap.size := ⟨_, rfl⟩
    rw [← hb3e] at hx3 HX3 ⊢
    obtain ⟨k0, k1, k2⟩ := head_cells hx3
    clear hb3 hw3 hx3 hb3e
    go_wp2_with fail
    refine (seal_as bs.length (kindAt bs) (numAt bs) (genAt bs) (lenAt bs) _ _ _ (payOf bs) w3 rfl HE4.out HE5.out HPAY.out HE2.out e3).mono ?_
    rintro _ w4 ⟨q4, rfl, hq4, hrow4, hb4⟩
    rw [HBS.out] at hrow4
    have hx4 : w4.heap[b3]? = some (.cells #[.int .i64 (kindAt bs : Int), .int .i64 (numAt bs : Int), .int .u64 (genAt bs : Int)] 26 (0, 0)) := by rw [hb4.block _ (Array.getElem?_eq_some_iff.1 HX3.out).1]; exact HX3.out
    have HB4 : Hid (Below w.heap.size w w4) := HB3.out.trans (hb4.mono HB3.out.size)
    have cv1 : (convert 27 9 (.slice (some ⟨q4, 0, none⟩) bs.length bs.length)).run Try.prog w4 = .ok (.string (strB bs)) w4 := conv_any _ _ hrow4.bytes rfl
    have cv2 : (convert 27 9 (.slice a bs.length cap)).run Try.prog w4 = .ok (.string (strB bs)) w4 := conv_any _ _ (HB.out.here HB4.out) rfl
    clear k0 k1 k2
    obtain ⟨k0, k1, k2⟩ := head_cells hx4
    clear hb4 hx4 hrow4
    go_wp2
    go_ret
    exact ⟨rfl, HB4.out⟩
end Go.Proofs.Ytafkimhnllnopaa
