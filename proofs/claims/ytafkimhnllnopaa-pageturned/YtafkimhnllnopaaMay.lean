/- The law's own 'may': a head, a size and a payload that may be. -/
import Derived.Test.YtafkimhnllnopaaBits
namespace Go.Proofs.Ytafkimhnllnopaa
open Go.RowKit

theorem pick_nat (c : Int) (n : Nat) (hn : 0 < n) : ∃ x : Nat, pickOf c n = (x : Int) ∧ x < n := by
  have h := pickOf_range c n (by omega)
  exact ⟨(pickOf c n).toNat, by omega, by omega⟩
theorem pick4 (c : Int) : pickOf c 4 = 0 ∨ pickOf c 4 = 1 ∨ pickOf c 4 = 2 ∨ pickOf c 4 = 3 := by
  have h := pickOf_range c 4 (by decide)
  omega
/-- What 'may' may answer. -/
structure MayBe (s K N m l : Nat) : Prop where
  sized : sizedB s = true
  may : mayB K N = true
  short : m ≤ l
  room : m + 32 ≤ s

set_option maxHeartbeats 1600000 in
set_option maxRecDepth 100000 in
theorem may_any (w : World) (z k n : Int) (g : Nat) (a : Option Addr) (l cap : Nat) (hz : (Lit.int .i64 z).wf = true) (hk : (Lit.int .i64 k).wf = true) (hn : (Lit.int .i64 n).wf = true) (hcap : l ≤ cap) :
    Calls Try.prog 19 #[.int .i64 z, .agg #[.int .i64 k, .int .i64 n, .int .u64 (g : Int)], .slice a l cap] w fun e w' =>
      ∃ s K N m : Nat, e = .returned (.tuple #[.int .i64 (s : Int), .agg #[.int .i64 (K : Int), .int .i64 (N : Int), .int .u64 (g : Int)], .slice a m cap]) ∧ MayBe s K N m l ∧ Below w.heap.size w w' := by
  have HK : Hid _ := hk
  have HN : Hid _ := hn
  clear hk hn
  have HEX : ∀ s : Nat, 512 ≤ s → s ≤ 4096 → ∃ m : Nat, m ≤ l ∧ m + 32 ≤ s ∧ ∀ W, (Builtin.min_ #[3, 3] 3 #[.int .i64 (l : Int), .int .i64 ((s : Int) - 32)]).run Try.prog W = .ok (.int .i64 (m : Int)) W := fun s h1 h2 =>
    ⟨min l (s - 32), by omega, by omega, fun W => by
      simp [Builtin.min_, Builtin.min2]
      split <;> omega⟩
  have HX : Hid _ := HEX
  clear HEX
  go_enter Try.func19, Try.ntmps19
  go_wp2_with fail
  refine (pick_any z 4 _ hz (by decide) (by decide)).mono ?_
  rintro _ _ ⟨rfl, rfl⟩
  obtain ⟨s, hs, hsz, hsv⟩ : ∃ s : Nat, sizedB s = true ∧ (512 ≤ s ∧ s ≤ 4096) ∧ ((pickOf z 4 = 0 ∧ s = 512) ∨ (pickOf z 4 = 1 ∧ s = 1024) ∨ (pickOf z 4 = 2 ∧ s = 2048) ∨ (pickOf z 4 = 3 ∧ s = 4096)) := by
    rcases pick4 z with h | h | h | h
    · exact ⟨512, by decide, by decide, .inl ⟨h, rfl⟩⟩
    · exact ⟨1024, by decide, by decide, .inr (.inl ⟨h, rfl⟩)⟩
    · exact ⟨2048, by decide, by decide, .inr (.inr (.inl ⟨h, rfl⟩))⟩
    · exact ⟨4096, by decide, by decide, .inr (.inr (.inr ⟨h, rfl⟩))⟩
  have hx0 : 0 ≤ pickOf z 4 := (pickOf_range z 4 (by decide)).1
  have hx4 : pickOf z 4 < 4 := (pickOf_range z 4 (by decide)).2
  generalize pickOf z 4 = x at hsv hx0 hx4 ⊢
  obtain ⟨xn, rfl⟩ : ∃ xn : Nat, x = (xn : Int) := ⟨x.toNat, by omega⟩
  have hsh : wrap64 (512 * 2 ^ xn) = (s : Int) := by
    rcases hsv with ⟨h1, h2⟩ | ⟨h1, h2⟩ | ⟨h1, h2⟩ | ⟨h1, h2⟩
    all_goals
      obtain ⟨rfl⟩ : xn = _ := Int.ofNat.inj h1
      subst h2
      simp [wrap64]
  obtain ⟨m, hm1, hm2, hmin⟩ := HX.out s hsz.1 hsz.2
  clear hsv
  go_wp2_with fail
  rw [hsh]
  clear hsh hx0 hx4
  refine (pick_any k 5 _ HK.out (by decide) (by decide)).mono ?_
  rintro _ _ ⟨rfl, rfl⟩
  obtain ⟨K, hK, hK5⟩ := pick_nat k 5 (by decide)
  have hK' : pickOf k 5 = (K : Int) := hK
  rw [hK']
  clear hK hK'
  go_wp2_with fail
  refine (pick_any n 65536 _ HN.out (by decide) (by decide)).mono ?_
  rintro _ _ ⟨rfl, rfl⟩
  obtain ⟨N, hN, hN5⟩ := pick_nat n 65536 (by decide)
  have hN' : pickOf n 65536 = (N : Int) := hN
  rw [hN']
  clear hN hN'
  have hmc : (m : Int) ≤ (cap : Int) := by omega
  go_wp2_with fail
  go_region
  go_wp2
  refine bodyPost_ret (v := .tuple #[.int .i64 (s : Int), .agg #[.int .i64 (1 + (K : Int)), .int .i64 (N : Int), .int .u64 (g : Int)], .slice a m cap]) (by simp [results, Try.results19, go_sem]) rfl ⟨s, K + 1, N, m, ?_, ⟨hs, ?_, hm1, hm2⟩, ?_⟩
  · rw [show ((K + 1 : Nat) : Int) = 1 + (K : Int) by omega]
  · simp [mayB]
    omega
  · exact (((Below.refl _ _).alloc (Nat.le_refl _) _).alloc (by simp) _).drew
end Go.Proofs.Ytafkimhnllnopaa
