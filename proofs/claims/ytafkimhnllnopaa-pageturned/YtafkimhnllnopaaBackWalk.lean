/- The law PageBack's walk. -/
import Derived.Test.YtafkimhnllnopaaMay
import Derived.Test.YtafkimhnllnopaaFormWalk
namespace Go.Proofs.Ytafkimhnllnopaa
open Go.RowKit

/-- What Open makes of a page, its head told by cells. -/
theorem open_as (w : World) (q s : Nat) (k n g : Nat) (p : List UInt8) (l : Nat) (number : Int) (hs : sizedB s = true) (hm : mayB k n = true) (hg : g < 18446744073709551616) (hl : p.length = l) (hp : l + 32 ≤ s) (cap : Nat) (hc : s ≤ cap) (hb : BytesAt w.heap.size w (some ⟨q, 0, none⟩) (sealed s k n g p)) :
    Calls Try.prog 20 #[.slice (some ⟨q, 0, none⟩) s cap, .int .i64 number] w fun e w' => Below w.heap.size w w' ∧
      (((n : Int) ≠ number ∧ e = .returned (.tuple #[.agg #[.int .i64 0, .int .i64 0, .int .u64 0], .slice none 0 0, .int .i64 33])) ∨
       ((n : Int) = number ∧ ∃ q' c, e = .returned (.tuple #[.agg #[.int .i64 (k : Int), .int .i64 (n : Int), .int .u64 (g : Int)], .slice (some ⟨q', 0, none⟩) l c, .int .i64 0]) ∧ w'.ownsRow w.heap.size 5 1 (.slice (some ⟨q', 0, none⟩) l c) l (p.map encB))) := by
  subst hl
  exact open_page w q s k n g p number hs hm hg hp cap hc hb

set_option maxHeartbeats 1600000 in
set_option maxRecDepth 100000 in
theorem back_walk (w : World) (z k n : Int) (g : Nat) (a : Option Addr) (cap : Nat) (bs : List UInt8) (number : Int) (hg : g < 18446744073709551616) (hz : (Lit.int .i64 z).wf = true) (hk : (Lit.int .i64 k).wf = true) (hn : (Lit.int .i64 n).wf = true)
    (hb : BytesAt w.heap.size w a bs) (hcap : bs.length ≤ cap) :
    Calls Try.prog 6 #[.int .i64 z, .agg #[.int .i64 k, .int .i64 n, .int .u64 (g : Int)], .slice a bs.length cap, .int .i64 number] w fun e w' => e = .returned (.bool true) ∧ Below w.heap.size w w' := by
  have HB : Hid (BytesAt w.heap.size w a bs) := hb
  have HZ : Hid _ := hz
  have HK : Hid _ := hk
  have HN : Hid _ := hn
  have HG : Hid _ := hg
  have hb0 : Below w.heap.size w (w.alloc (.cells #[.int .i64 k, .int .i64 n, .int .u64 (g : Int)] 26)) := (Below.refl _ _).alloc (Nat.le_refl _) _
  have HB0 : Hid _ := hb0
  have HX0 : Hid _ := heap_alloc_last w (.cells #[.int .i64 k, .int .i64 n, .int .u64 (g : Int)] 26)
  clear hb hz hk hn hg hb0
  go_enter Try.func6, Try.ntmps6
  go_wp2_with fail
  refine (alive_any _).mono ?_
  rintro _ w1 ⟨rfl, hb1⟩
  have HB1 : Hid (Below w.heap.size w w1) := HB0.out.trans (hb1.mono HB0.out.size)
  have hx1 : w1.heap[w.heap.size]? = some (.cells #[.int .i64 k, .int .i64 n, .int .u64 (g : Int)] 26 (0, 0)) := by rw [hb1.block _ (by simp)]; exact HX0.out
  obtain ⟨k0, k1, k2⟩ := head_cells hx1
  clear hb1 hx1
  go_wp2_with fail
  refine (may_any w1 z k n g a bs.length cap HZ.out HK.out HN.out hcap).mono ?_
  rintro _ w2 ⟨s, K, N, m, rfl, hmay, hb2⟩
  have HB2 : Hid (Below w.heap.size w w2) := HB1.out.trans (hb2.mono HB1.out.size)
  have HMAY : Hid _ := hmay
  have hms := hmay.short
  have hmr := hmay.room
  have hsb := sized_bounds hmay.sized
  have HPL : Hid ((bs.take m).length = m) := by show _ = _; simp; omega
  clear hb2 hmay k0 k1 k2
  go_upto_region 3 with fail
  obtain ⟨w3, hw3⟩ : ∃ w3, w3 = w2.alloc (.cells #[.int .i64 (K : Int), .int .i64 (N : Int), .int .u64 (g : Int)] 26) := ⟨_, rfl⟩
  rw [← hw3]
  have hb3 : Below w2.heap.size w2 w3 := by rw [hw3]; exact (Below.refl _ _).alloc (Nat.le_refl _) _
  have hx3 : w3.heap[w2.heap.size]? = some (.cells #[.int .i64 (K : Int), .int .i64 (N : Int), .int .u64 (g : Int)] 26 (0, 0)) := by rw [hw3]; exact heap_alloc_last _ _
  have HB3 : Hid (Below w.heap.size w w3) := HB2.out.trans (hb3.mono HB2.out.size)
  obtain ⟨b3, hb3e⟩ : ∃ b3, b3 = w2.heap.size := ⟨_, rfl⟩
  rw [← hb3e] at hx3 ⊢
  have HX3 : Hid _ := hx3
  obtain ⟨k0, k1, k2⟩ := head_cells hx3
  clear hb3 hw3 hx3 hb3e
  go_wp2_with fail
  refine (seal_as s K N g m _ _ _ (bs.take m) w3 rfl HMAY.out.sized HMAY.out.may ((HB.out.here HB3.out).take m) HPL.out hmr).mono ?_
  rintro _ w4 ⟨q4, rfl, hq4, hrow4, hb4⟩
  have HROW4 : Hid (RowIs w4 q4 (sealed s K N g (bs.take m))) := hrow4
  have hx4 : w4.heap[b3]? = some (.cells #[.int .i64 (K : Int), .int .i64 (N : Int), .int .u64 (g : Int)] 26 (0, 0)) := by rw [hb4.block _ (Array.getElem?_eq_some_iff.1 HX3.out).1]; exact HX3.out
  have HB4 : Hid (Below w.heap.size w w4) := HB3.out.trans (hb4.mono HB3.out.size)
  have HX4 : Hid _ := hx4
  clear k0 k1 k2
  obtain ⟨k0, k1, k2⟩ := head_cells hx4
  clear hb4 hx4 hrow4 hq4
  go_wp2_with fail
  refine (open_as w4 q4 s K N g (bs.take m) m N HMAY.out.sized HMAY.out.may HG.out HPL.out hmr s (Nat.le_refl _) HROW4.out.bytes).mono ?_
  rintro _ w5 ⟨hb5, hor⟩
  rcases hor with ⟨hne, _⟩ | ⟨_, q5, c5, rfl, hown5⟩
  · exact absurd rfl hne
  have HB5 : Hid (Below w.heap.size w w5) := HB4.out.trans (hb5.mono HB4.out.size)
  have HROW5 : Hid (RowIs w5 q4 (sealed s K N g (bs.take m))) := HROW4.out.here hb5
  have hx5 : w5.heap[b3]? = some (.cells #[.int .i64 (K : Int), .int .i64 (N : Int), .int .u64 (g : Int)] 26 (0, 0)) := by rw [hb5.block _ (Array.getElem?_eq_some_iff.1 HX4.out).1]; exact HX4.out
  have HX5 : Hid _ := hx5
  have l5 : b3 < w5.heap.size := (Array.getElem?_eq_some_iff.1 hx5).1
  clear k0 k1 k2
  obtain ⟨k0, k1, k2⟩ := head_cells hx5
  have HPQ : Hid (BytesAt w5.heap.size w5 (some ⟨q5, 0, none⟩) (bs.take m)) := bytes_row hown5
  have HPP : Hid (BytesAt w5.heap.size w5 a (bs.take m)) := (HB.out.here HB5.out).take m
  have cv1 : ∀ o, (convert 27 9 (.slice (some ⟨q5, 0, none⟩) m c5)).run Try.prog (w5.alloc o) = .ok (.string (strB (bs.take m))) (w5.alloc o) := fun o =>
    conv_any _ _ (HPQ.out.here ((Below.refl _ _).alloc (Nat.le_refl _) o)) HPL.out
  have cv2 : ∀ o, (convert 27 9 (.slice a m cap)).run Try.prog (w5.alloc o) = .ok (.string (strB (bs.take m))) (w5.alloc o) := fun o =>
    conv_any _ _ (HPP.out.here ((Below.refl _ _).alloc (Nat.le_refl _) o)) HPL.out
  clear hb5 hx5 hown5
  go_wp2_with fail
  obtain ⟨wy, hwy⟩ : ∃ wy, wy = w5.alloc (.cells #[.int .i64 (K : Int), .int .i64 (N : Int), .int .u64 (g : Int)] 26) := ⟨_, rfl⟩
  rw [← hwy]
  have hby : Below w5.heap.size w5 wy := by rw [hwy]; exact (Below.refl _ _).alloc (Nat.le_refl _) _
  have HBY : Hid (Below w.heap.size w wy) := HB5.out.trans (hby.mono HB5.out.size)
  have HXY : Hid (wy.heap[b3]? = some (.cells #[.int .i64 (K : Int), .int .i64 (N : Int), .int .u64 (g : Int)] 26 (0, 0))) := by show _ = _; rw [hby.block _ l5]; exact HX5.out
  have HROWY : Hid (RowIs wy q4 (sealed s K N g (bs.take m))) := HROW5.out.here hby
  clear hwy hby cv1 cv2 k0 k1 k2 l5
  refine (open_as wy q4 s K N g (bs.take m) m number HMAY.out.sized HMAY.out.may HG.out HPL.out hmr s (Nat.le_refl _) HROWY.out.bytes).mono ?_
  rintro _ w6 ⟨hb6, hor⟩
  have HB6 : Hid (Below w.heap.size w w6) := HBY.out.trans (hb6.mono HBY.out.size)
  have hx6 : w6.heap[b3]? = some (.cells #[.int .i64 (K : Int), .int .i64 (N : Int), .int .u64 (g : Int)] 26 (0, 0)) := by rw [hb6.block _ (Array.getElem?_eq_some_iff.1 HXY.out).1]; exact HXY.out
  have l6 : b3 < w6.heap.size := (Array.getElem?_eq_some_iff.1 hx6).1
  obtain ⟨k0, k1, k2⟩ := head_cells hx6
  clear hb6 hx6
  rcases hor with ⟨hne, rfl⟩ | ⟨heq, q6, c6, rfl, _⟩
  · have hnb : (number == (N : Int)) = false := by rw [beq_eq_false_iff_ne]; omega
    have hnb2 : ¬ number = (N : Int) := by omega
    clear hne
    go_wp2
    go_ret
    exact ⟨rfl, HB6.out.alloc HB6.out.size _⟩
  · subst heq
    go_wp2
    go_ret
    exact ⟨rfl, HB6.out.alloc HB6.out.size _⟩
end Go.Proofs.Ytafkimhnllnopaa
