/- The law's play, whatever its kind. -/
import Derived.Test.YtlokplnapaghhaaDoorPlayA
import Derived.Test.YtlokplnapaghhaaDoorPlayB
import Derived.Test.YtlokplnapaghhaaDoorPlayC
import Derived.Test.YtlokplnapaghhaaDoorPlayD
namespace Go.Proofs.YtlokplnapaghhaaDoor
open Go.RowKit

theorem play_any (base : Nat) (w : World) (p : Nat) (h : WSome base w p) (ht : Tab w) (hb : base ≤ w.heap.size) (k : Bool) (K N : Int) (v : Value) (a : Option Addr) (c : Nat) (bs : List UInt8) (hv : v = .slice a bs.length c) (hbs : BytesAt w.heap.size w a bs) (hc : bs.length ≤ c) (hn : a = none → c = 0) (hs : bs.length ≤ 140737488351232) :
    Calls Tryd.prog 11 #[.pointer (some ⟨p, 0, none⟩), .agg #[.bool k, .int .i64 K, .int .i64 N, v]] w fun e w' => e = .returned (.bool true) ∧ WSome base w' p ∧ Below base w w' := by
  obtain ⟨A, B, G, C, S, h⟩ := h.is
  by_cases h1 : K = 1
  · subst h1; exact play1 base w p A B G C S h ht hb k N v
  by_cases h2 : K = 2
  · subst h2; exact play2 base w p A B G C S h ht hb k N v
  by_cases h3 : K = 3
  · subst h3; exact play3 base w p A B G C S h ht hb k N v
  by_cases h4 : K = 4
  · subst h4; exact play4 base w p A B G C S h ht hb k N v
  by_cases h5 : K = 5
  · subst h5; exact play5 base w p A B G C S h ht hb k N v
  by_cases h6 : K = 6
  · subst h6; exact play6 base w p A B G C S h ht hb k N v
  by_cases h7 : K = 7
  · subst h7; exact play7 base w p A B G C S h ht hb k N v
  by_cases h8 : K = 8
  · subst h8; exact play8 base w p A B G C S h ht hb k N v
  by_cases h9 : K = 9
  · subst h9; exact play9 base w p A B G C S h ht hb k N v a c bs hv hbs hc hn hs
  by_cases h10 : K = 10
  · subst h10; exact play10 base w p A B G C S h ht hb k N v
  exact play0 base w p A B G C S h ht hb k N v K ⟨by simp [h1], by simp [h2], by simp [h3], by simp [h4], by simp [h5], by simp [h6], by simp [h7], by simp [h8], by simp [h9], by simp [h10]⟩
end Go.Proofs.YtlokplnapaghhaaDoor
