/- ends, of what came out. -/
import Derived.Test.YtaehchijeinloaaOutB
import Derived.Test.YtaehchijeinloaaOutW
namespace Go.Proofs.Ytaehchijeinloaa
open Go.RowKit

/-- ends, of what came out and lies between borders. -/
theorem ends_of {b : Nat} {w : World} {vl vw : Value} {its wants : List Ko} (hS : OutS b w vl vw its.length (flat its) (flat wants)) (hwl : wants.length = its.length) (lo hi : Nat → Nat) (hk : ∀ (j : Nat) (e : Ko), its[j]? = some e → NewKo (lo j) (hi j) w e) (hlo : ∀ j, b + 1 ≤ lo j) (hd : ∀ i j, i < j → j < its.length → hi i ≤ lo j)
    (hw : ∀ (j : Nat) (e e' : Ko), its[j]? = some e → wants[j]? = some e' → (∃ B, NewInts B w e'.vp e'.ps ∧ NewKeys B w e'.vk e'.F) ∧ kd e.ps e.F = kd e'.ps e'.F)
    (hil : its.length ≤ 1000) (hbp : ∀ e ∈ its, e.ps.length ≤ 8589934592 ∧ ∀ p ∈ e.ps, -9223372036854775808 ≤ p ∧ p ≤ 9223372036854775807) (hbf : (keysAll its).length ≤ 34359738368) (hbk : ∀ e ∈ keysAll its, e.k.length ≤ 8589934592) :
    Calls Try.prog 19 #[.pointer (some ⟨b, 0, none⟩)] w fun e w' => e = .returned (.bool true) ∧ Below (b + 1) w w' := by
  refine ends_any (es_build hS lo hi hk hlo hd) hS.ow hwl (fun j e e' he he' => ?_) (fun j e he => by simp [rOf, he]) (fun j e he => by simp [rOf, he]) (fun j e he => by simp [rOf, he]) (fun k n hk4 => ?_) hil (fun e he => (hbp e he).1) hbf hbk
  · obtain ⟨⟨B, h1, h2⟩, h3⟩ := hw j e e' he he'
    obtain ⟨hb1, hb2⟩ := hbp e (List.mem_of_getElem? he)
    have hF : e.F.length ≤ 34359738368 := by have := key_bound he; omega
    have hps : e'.ps = e.ps := (congrArg Kd.ps h3).symm
    have hFl : e'.F.length = e.F.length := by have := congrArg (fun d => d.ks.length) h3; simpa [kd, keysOf] using this.symm
    exact ⟨⟨_, _, rfl, (hk j e he).p.ints (by omega) hb2, (hk j e he).k.at (by omega)⟩, ⟨_, _, rfl, h1.ints (by rw [hps]; omega) (by rw [hps]; exact hb2), h2.at (by omega)⟩, h3⟩
  · obtain ⟨m, rfl⟩ : ∃ m, k = m + 4 := ⟨k - 4, by omega⟩
    rfl
end Go.Proofs.Ytaehchijeinloaa
