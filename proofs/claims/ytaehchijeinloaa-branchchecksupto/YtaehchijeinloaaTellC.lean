/- told: what is told of Kids by numbers. -/
import Derived.Test.YtaehchijeinloaaRefSplitK
import Derived.Test.YtaehchijeinloaaRefEnc
namespace Go.Proofs.Ytaehchijeinloaa
open Go.RowKit

set_option maxHeartbeats 3200000 in
set_option maxRecDepth 100000 in
theorem told_any {w : World} {v u k : Value} {ps qs : List Int} {L M : List Kc} {z : Int} {key : Key} (h : KidsAt w.heap.size w v ps L) (hu : KidsAt w.heap.size w u qs M) (he : kd ps L = kd qs M) (hl : Light qs M) (hk : KeyAt w k key) :
    Calls Try.prog 12 #[.int .i64 z, v, u, k] w fun r w' => r = .returned (.bool true) ∧ Below w.heap.size w w' := by
  have hko : keysOf L = keysOf M := by have := congrArg Kd.ks he; exact this
  obtain ⟨vp, vk, rfl, h1, h2⟩ := id h.is
  obtain ⟨a1, c1, rfl⟩ := h1.form
  obtain ⟨a2, c2, rfl⟩ := h2.form
  obtain ⟨up, uk, rfl, h3, h4⟩ := id hu.is
  obtain ⟨a3, c3, rfl⟩ := h3.form
  obtain ⟨a4, c4, rfl⟩ := h4.form
  obtain ⟨a5, c5, rfl, _⟩ := id hk.is
  obtain ⟨W, hW⟩ : ∃ W, W = (w.alloc (.cells #[.slice a1 ps.length c1, .slice a2 L.length c2] 26)).alloc (.cells #[.slice a3 qs.length c3, .slice a4 M.length c4] 26) := ⟨_, rfl⟩
  have HBW : Hid (Below w.heap.size w W) := by rw [hW]; exact (below_new w _).alloc (by simp) _
  have HX : Hid (KBox W w.heap.size (.slice a1 ps.length c1) (.slice a2 L.length c2)) := by
    rw [hW]; exact (KBox.new w _ _).here (below_new _ _)
  have HY : Hid (KBox W (w.heap.size + 1) (.slice a3 qs.length c3) (.slice a4 M.length c4)) := by
    rw [hW]
    have := KBox.new (w.alloc (.cells #[.slice a1 ps.length c1, .slice a2 L.length c2] 26)) (.slice a3 qs.length c3) (.slice a4 M.length c4)
    show KBox _ _ _ _
    simpa using this
  have HA : Hid (∀ W', Below W.heap.size W W' → KidsAt W'.heap.size W' (.agg #[.slice a1 ps.length c1, .slice a2 L.length c2]) ps L) := fun W' hb => (h.here HBW.out).here hb
  have HB : Hid (∀ W', Below W.heap.size W W' → KidsAt W'.heap.size W' (.agg #[.slice a3 qs.length c3, .slice a4 M.length c4]) qs M) := fun W' hb => (hu.here HBW.out).here hb
  have HKY : Hid (∀ W', Below W.heap.size W W' → KeyAt W' (.slice a5 key.length c5) key) := fun W' hb => (hk.here HBW.out).here hb
  have HCL : Hid (∀ W', Below W.heap.size W W' → W'.cell? ⟨w.heap.size, 0, none⟩ = some (.slice a1 ps.length c1) ∧ W'.cell? ⟨w.heap.size, 1, none⟩ = some (.slice a2 L.length c2) ∧ W'.cell? ⟨w.heap.size + 1, 0, none⟩ = some (.slice a3 qs.length c3) ∧ W'.cell? ⟨w.heap.size + 1, 1, none⟩ = some (.slice a4 M.length c4)) := fun W' hb =>
    ⟨(HX.out.here hb).cells.1, (HX.out.here hb).cells.2, (HY.out.here hb).cells.1, (HY.out.here hb).cells.2⟩
  have HLI : Hid (Light qs M) := hl
  obtain ⟨s1, hs1⟩ : ∃ s1, s1 = (splitK wrap64 z (kd qs M)).1 := ⟨_, rfl⟩
  obtain ⟨s2, hs2⟩ : ∃ s2, s2 = (splitK wrap64 z (kd qs M)).2 := ⟨_, rfl⟩
  obtain ⟨ck, hck⟩ : ∃ ck, ck = checkK z (kd qs M) := ⟨_, rfl⟩
  obtain ⟨by', hby⟩ : ∃ b, b = bytesK (kd qs M) := ⟨_, rfl⟩
  obtain ⟨ch, hch⟩ : ∃ c, c = childK (keysOf M) key := ⟨_, rfl⟩
  have HS1 : Hid (∀ W', Below W.heap.size W W' → Calls Try.prog 31 #[.int .i64 z, .agg #[.slice a1 ps.length c1, .slice a2 L.length c2]] W' fun r w' => r = .returned (.tuple #[.int .i64 (s1 : Nat), .int .i64 (s2 : Nat)]) ∧ Below W'.heap.size W' w') := fun W' hb => by
    have := split_any (z := z) (HA.out W' hb)
    rw [he, ← hs1, ← hs2] at this; exact this
  have HS2 : Hid (∀ W', Below W.heap.size W W' → Calls Try.prog 32 #[.int .i64 z, .agg #[.slice a3 qs.length c3, .slice a4 M.length c4]] W' fun r w' => r = .returned (.tuple #[.int .i64 (s1 : Nat), .int .i64 (s2 : Nat)]) ∧ Below W'.heap.size W' w') := fun W' hb => by
    have := refSplit_any (z := z) (HB.out W' hb) HLI.out
    rw [← hs1, ← hs2] at this; exact this
  have HC1 : Hid (∀ W', Below W.heap.size W W' → Calls Try.prog 25 #[.int .i64 z, .agg #[.slice a1 ps.length c1, .slice a2 L.length c2]] W' fun r w' => r = .returned (.int .i64 (ck : Nat)) ∧ Below W'.heap.size W' w') := fun W' hb => by
    have := check_any (z := z) (HA.out W' hb)
    rw [he, ← hck] at this; exact this
  have HC2 : Hid (∀ W', Below W.heap.size W W' → Calls Try.prog 33 #[.int .i64 z, .agg #[.slice a3 qs.length c3, .slice a4 M.length c4]] W' fun r w' => r = .returned (.int .i64 (ck : Nat)) ∧ Below W'.heap.size W' w') := fun W' hb => by
    have := refCheck_any (z := z) (HB.out W' hb) HLI.out
    rw [← hck] at this; exact this
  have HB1 : Hid (∀ W', Below W.heap.size W W' → Calls Try.prog 28 #[.agg #[.slice a1 ps.length c1, .slice a2 L.length c2]] W' fun r w' => r = .returned (.int .i64 (by' : Nat)) ∧ Below W'.heap.size W' w') := fun W' hb => by
    have := bytes_any (HA.out W' hb)
    rw [he, light_wrap HLI.out, ← hby] at this; exact this
  have HB2 : Hid (∀ W', Below W.heap.size W W' → Calls Try.prog 34 #[.agg #[.slice a3 qs.length c3, .slice a4 M.length c4]] W' fun r w' => r = .returned (.int .i64 (by' : Nat)) ∧ Below W'.heap.size W' w') := fun W' hb => by
    have := refBytes_any (HB.out W' hb) HLI.out
    rw [← hby] at this; exact this
  have HD1 : Hid (∀ W', Below W.heap.size W W' → Calls Try.prog 30 #[.agg #[.slice a1 ps.length c1, .slice a2 L.length c2], .slice a5 key.length c5] W' fun r w' => r = .returned (.int .i64 (ch : Nat)) ∧ Below W'.heap.size W' w') := fun W' hb => by
    have := child_any (HA.out W' hb) (HKY.out W' hb)
    rw [hko, ← hch] at this; exact this
  have HD2 : Hid (∀ W', Below W.heap.size W W' → Calls Try.prog 35 #[.agg #[.slice a3 qs.length c3, .slice a4 M.length c4], .slice a5 key.length c5] W' fun r w' => r = .returned (.int .i64 (ch : Nat)) ∧ Below W'.heap.size W' w') := fun W' hb => by
    have := refChild_any (HB.out W' hb) (HKY.out W' hb)
    rw [← hch] at this; exact this
  clear h hu h1 h2 h3 h4 hk he hl hko hs1 hs2 hck hby hch HX HY HA HB HKY
  obtain ⟨k0, k1, k2, k3⟩ := HCL.out W (Below.refl _ _)
  go_enter Try.func12, Try.ntmps12
  go_wp2_with fail
  rw [← hW]
  clear hW
  refine (HS1.out W (Below.refl _ _)).mono ?_
  rintro e w1 ⟨rfl, hb⟩
  have HW1 : Hid (Below W.heap.size W w1) := hb
  clear hb k0 k1 k2 k3
  obtain ⟨k0, k1, k2, k3⟩ := HCL.out w1 HW1.out
  go_wp2_with fail
  refine (HS2.out w1 HW1.out).mono ?_
  rintro e w2 ⟨rfl, hb⟩
  have HW2 : Hid (Below W.heap.size W w2) := HW1.out.trans (hb.mono HW1.out.size)
  clear hb k0 k1 k2 k3
  obtain ⟨k0, k1, k2, k3⟩ := HCL.out w2 HW2.out
  go_wp2_with fail
  go_region_held_law (fun W' => W'.cell? ⟨w.heap.size, 0, none⟩ = some (.slice a1 ps.length c1) ∧ W'.cell? ⟨w.heap.size, 1, none⟩ = some (.slice a2 L.length c2) ∧ W'.cell? ⟨w.heap.size + 1, 0, none⟩ = some (.slice a3 qs.length c3) ∧ W'.cell? ⟨w.heap.size + 1, 1, none⟩ = some (.slice a4 M.length c4)) (first | go_keep | (refine ⟨?_, ?_, ?_, ?_⟩ <;> assumption))
    (first
      | (go_at_call 25; refine (HC1.out w2.drew (HW2.out.drew)).mono ?_; rintro e y1 ⟨rfl, hb⟩
         have HZ1 : Hid (Below W.heap.size W y1) := (HW2.out.drew).trans (hb.mono (HW2.out.drew).size)
         clear hb
         obtain ⟨g00, g01, g02, g03⟩ := HCL.out y1 HZ1.out)
      | (go_at_call 33; refine (HC2.out y1 (HZ1.out)).mono ?_; rintro e y2 ⟨rfl, hb⟩
         have HZ2 : Hid (Below W.heap.size W y2) := (HZ1.out).trans (hb.mono (HZ1.out).size)
         clear hb
         obtain ⟨g10, g11, g12, g13⟩ := HCL.out y2 HZ2.out)
      | (go_at_call 28; refine (HB1.out y2 (HZ2.out)).mono ?_; rintro e y3 ⟨rfl, hb⟩
         have HZ3 : Hid (Below W.heap.size W y3) := (HZ2.out).trans (hb.mono (HZ2.out).size)
         clear hb
         obtain ⟨g20, g21, g22, g23⟩ := HCL.out y3 HZ3.out)
      | (go_at_call 34; refine (HB2.out y3 (HZ3.out)).mono ?_; rintro e y4 ⟨rfl, hb⟩
         have HZ4 : Hid (Below W.heap.size W y4) := (HZ3.out).trans (hb.mono (HZ3.out).size)
         clear hb
         obtain ⟨g30, g31, g32, g33⟩ := HCL.out y4 HZ4.out)
      | (go_at_call 30; refine (HD1.out y4 (HZ4.out)).mono ?_; rintro e y5 ⟨rfl, hb⟩
         have HZ5 : Hid (Below W.heap.size W y5) := (HZ4.out).trans (hb.mono (HZ4.out).size)
         clear hb
         obtain ⟨g40, g41, g42, g43⟩ := HCL.out y5 HZ5.out)
      | (go_at_call 35; refine (HD2.out y5 (HZ5.out)).mono ?_; rintro e y6 ⟨rfl, hb⟩
         have HZ6 : Hid (Below W.heap.size W y6) := (HZ5.out).trans (hb.mono (HZ5.out).size)
         clear hb
         obtain ⟨g50, g51, g52, g53⟩ := HCL.out y6 HZ6.out))
  go_wp2_with fail
  go_ret
  exact ⟨rfl, HBW.out.trans (HZ6.out.mono HBW.out.size)⟩
end Go.Proofs.Ytaehchijeinloaa
