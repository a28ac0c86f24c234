/- SpaceDecodes's walk. -/
import Derived.Test.YtlokplnapaghhaaDoorRefDec
import Derived.Test.YtlokplnapaghhaaDoorLawRB
import Derived.Test.YtlokplnapaghhaaDoorArgs9
namespace Go.Proofs.YtlokplnapaghhaaDoor
open Go.RowKit

theorem Dec.like {n : Nat} {bs : List UInt8} {s : Sp} (h : Dec n bs) (hn : s.n = n) (hh : ∀ k, k < n → s.has k = inRuns (runsOf bs) k) : s.runs = runsOf bs ∧ s.enc = bs := by
  have hr := h.runs
  rw [← hn] at hr
  have e : s.runs = runsOf bs := s.runs_of hr (fun j hj => hh j (by omega))
  exact ⟨e, by rw [Sp.enc_is, e, ← h.is]⟩
theorem DecPost.fails {w : World} {n : Nat} {bs : List UInt8} {e : Ending} {w' : World} (h : DecPost w n bs e w') (hd : ¬ Dec n bs) : e = .returned (.tuple #[.pointer none, .int .i64 93]) ∧ Below w.heap.size w w' := by
  cases h with
  | no h1 _ h3 => exact ⟨h1, h3⟩
  | yes g s _ h2 _ _ _ _ _ => exact absurd h2 hd
theorem RDecPost.fails {w : World} {n : Nat} {bs : List UInt8} {e : Ending} {w' : World} (h : RDecPost w n bs e w') (hd : ¬ Dec n bs) : e = .returned (.tuple #[.pointer none, .int .i64 93]) ∧ Below w.heap.size w w' := by
  cases h with
  | no h1 _ h3 => exact ⟨h1, h3⟩
  | yes g s _ h2 _ _ _ _ => exact absurd h2 hd
theorem RDecPost.get {w : World} {n : Nat} {bs : List UInt8} {e : Ending} {w' : World} (h : RDecPost w n bs e w') (hd : Dec n bs) :
    ∃ b s, e = .returned (.tuple #[.pointer (some ⟨b, 0, none⟩), .int .i64 0]) ∧ NewRef w w' b s ∧ s.n = n ∧ (∀ k, k < n → s.has k = inRuns (runsOf bs) k) ∧ Below w.heap.size w w' := by
  cases h with
  | no _ h2 _ => exact absurd hd h2
  | yes b s h1 _ h3 h4 h5 h6 => exact ⟨b, s, h1, h3, h4, h5, h6⟩
set_option maxHeartbeats 2000000 in
set_option maxRecDepth 100000 in
theorem spaceDecodes_any (w : World) (ht : Tab w) (blocks : Int) (_ : (Lit.int .i64 blocks).wf = true) (v : Value) (bs : List UInt8) (hv : BytesIn w v bs) :
    Calls Tryd.prog 5 #[.int .i64 blocks, v] w fun e w' => e = .returned (.bool true) ∧ Below w.heap.size w w' := by
  have HA := alive_any w ht
  have HT : Hid (Tab w) := ht
  obtain ⟨⟨a, c, rfl, hb, hc, _⟩, hs⟩ := hv
  clear ht
  by_cases h : 16 ≤ blocks ∧ blocks ≤ 65536
  · obtain ⟨n, rfl⟩ : ∃ n : Nat, blocks = n := ⟨blocks.toNat, by omega⟩
    have h16 : 16 ≤ n := by omega
    have h65 : n ≤ 65536 := by omega
    have HBY : Hid (BytesAt w.heap.size w a bs) := hb
    have HD1 : Hid (∀ W, Below w.heap.size w W → Calls Tryd.prog 20 #[.int .i64 n, .slice a bs.length c] W fun e w' => DecPost W n bs e w') := fun W hW => decode_any W n h16 h65 a c bs (BytesAt.here hb hW) hc hs
    have HD2 : Hid (∀ W, Below w.heap.size w W → Calls Tryd.prog 21 #[.int .i64 n, .slice a bs.length c] W fun e w' => RDecPost W n bs e w') := fun W hW => rdecode_any W n h16 h65 a c bs (BytesAt.here hb hW) hc hs
    have HCV : Hid (∀ W, Below w.heap.size w W → (convert 37 9 (.slice a bs.length c)).run Tryd.prog W = .ok (.string (strB bs)) W) := fun W hW => conv_any bs.length c (hb.below hW) rfl
    clear hb h
    by_cases hd : Dec n bs
    · go_enter Tryd.func5, Tryd.ntmps5
      go_wp2_with (first
        | (go_at_call 8; refine HA.mono ?_; rintro e w1 ⟨rfl, hb⟩; have HB1 : Hid (Below w.heap.size w w1) := hb; clear hb)
        | (go_at_call 20; refine (HD1.out w1 HB1.out).mono ?_; intro e w2 hp
           obtain ⟨g, s, rfl, hg, hs2, hsn, hsh, hb2⟩ := hp.get hd
           have HS2 : Hid (SpaceAt w2 g s) := hs2
           have HL2 : Hid (s.runs = runsOf bs ∧ s.enc = bs) := hd.like hsn hsh
           have HSN : Hid (s.n = n) := hsn
           have HB2 : Hid (Below w.heap.size w w2) := HB1.out.trans (hb2.mono HB1.out.size)
           clear hs2 hsn hsh hb2 hg)
        | (go_at_call 21; refine (HD2.out w2 HB2.out).mono ?_; intro e w3 hp
           obtain ⟨b, t, rfl, ⟨⟨gr, cr, hr3, _⟩, _⟩, htn, hth, hb3⟩ := hp.get hd
           have HR3 : Hid (RefAt w3 b gr cr t) := hr3
           have HL3 : Hid (t.runs = runsOf bs ∧ t.enc = bs) := hd.like htn hth
           have HS3 : Hid (SpaceAt w3 g s) := HS2.out.below hb3
           have HB3 : Hid (Below w.heap.size w w3) := HB2.out.trans (hb3.mono HB2.out.size)
           clear hr3 htn hth hb3)
        | (go_at_call 13; refine (rruns_any w3 b gr cr t HR3.out).mono ?_; rw [HL3.out.1]; rintro e w4 ⟨v4, rfl, hv4, hb4⟩
           have HV4 : Hid (NewR w3.heap.size w4 v4 (runsOf bs)) := hv4
           have HS4 : Hid (SpaceAt w4 g s) := HS3.out.below hb4
           have HB4 : Hid (Below w.heap.size w w4) := HB3.out.trans (hb4.mono HB3.out.size)
           clear hv4 hb4)
        | (go_at_call 12; refine (lawRuns_any w4 g s HS4.out (HT.out.below HB4.out) v4 (runsOf bs) HV4.out.in).mono ?_; rw [decide_eq_true HL2.out.1]; rintro e w5 ⟨rfl, hb5⟩
           have HS5 : Hid (SpaceAt w5 g s) := HS4.out.below hb5
           have HB5 : Hid (Below w.heap.size w w5) := HB4.out.trans (hb5.mono HB4.out.size)
           have hcv := HCV.out w5 HB5.out
           clear hb5)
        | (go_at_call 14; refine (lawBytes_any w5 g s HS5.out (HT.out.below HB5.out) bs).mono ?_; rw [decide_eq_true HL2.out.2]; rintro e w6 ⟨rfl, hb6⟩
           have HB6 : Hid (Below w.heap.size w w6) := HB5.out.trans (hb6.mono HB5.out.size)
           clear hb6))
      go_ret
      exact ⟨rfl, HB6.out⟩
    · go_enter Tryd.func5, Tryd.ntmps5
      go_wp2_with (first
        | (go_at_call 8; refine HA.mono ?_; rintro e w1 ⟨rfl, hb⟩; have HB1 : Hid (Below w.heap.size w w1) := hb; clear hb)
        | (go_at_call 20; refine (HD1.out w1 HB1.out).mono ?_; intro e w2 hp
           obtain ⟨rfl, hb2⟩ := hp.fails hd
           have HB2 : Hid (Below w.heap.size w w2) := HB1.out.trans (hb2.mono HB1.out.size)
           clear hb2)
        | (go_at_call 21; refine (HD2.out w2 HB2.out).mono ?_; intro e w3 hp
           obtain ⟨rfl, hb3⟩ := hp.fails hd
           have HB3 : Hid (Below w.heap.size w w3) := HB2.out.trans (hb3.mono HB2.out.size)
           clear hb3))
      go_ret
      exact ⟨rfl, HB3.out⟩
  · have HD1 := fun W => decode_arg W blocks (.slice a bs.length c) h
    have HD2 := fun W => rdecode_arg W blocks (.slice a bs.length c) h
    clear hb h
    go_enter Tryd.func5, Tryd.ntmps5
    go_wp2_with (first
      | (go_at_call 8; refine HA.mono ?_; rintro e w1 ⟨rfl, hb⟩; have HB1 : Hid (Below w.heap.size w w1) := hb; clear hb)
      | (go_at_call 20; refine (HD1 w1).mono ?_; rintro e w' ⟨rfl, hw'⟩; obtain rfl := hw'.symm)
      | (go_at_call 21; refine (HD2 w1).mono ?_; rintro e w' ⟨rfl, hw'⟩; obtain rfl := hw'.symm))
    go_ret
    exact ⟨rfl, HB1.out⟩
end Go.Proofs.YtlokplnapaghhaaDoor
