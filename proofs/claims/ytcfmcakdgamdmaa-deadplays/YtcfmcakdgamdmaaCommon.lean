/- common: the life that two lives have in common. -/
import Derived.Test.YtcfmcakdgamdmaaCmp
namespace Go.Proofs.Ytcfmcakdgamdmaa
open Go.RowKit

def commonL (a x : Lf) : Lf := if a.p = x.p ∧ max a.b x.b < min a.d x.d then ⟨a.p, max a.b x.b, min a.d x.d⟩ else ⟨0, 0, 0⟩
set_option maxHeartbeats 1600000 in
theorem common_any (w : World) (a x : Lf) : Calls Try.prog 38 #[aggL a, aggL x] w fun e w' => e = .returned (aggL (commonL a x)) ∧ Below w.heap.size w w' := by
  unfold aggL
  have HE : Hid (commonL a x = if a.p = x.p ∧ max a.b x.b < min a.d x.d then ⟨a.p, max a.b x.b, min a.d x.d⟩ else ⟨0, 0, 0⟩) := rfl
  generalize commonL a x = r at HE ⊢
  go_enter Try.func38, Try.ntmps38
  go_wp2
  all_goals
    have hr := HE.out
    clear HE
    split at hr
    · rename_i hc
      first
        | (exfalso; omega)
        | (rw [hc.1] at hr
           first | rw [Int.max_eq_right (by omega)] at hr | rw [Int.max_eq_left (by omega)] at hr
           first | rw [Int.min_eq_right (by omega)] at hr | rw [Int.min_eq_left (by omega)] at hr
           clear hc
           refine bodyPost_ret (v := .agg #[.int .i64 r.p, .int .u64 r.b, .int .u64 r.d]) (by rw [hr]; simp [results, Try.results38, go_sem]) rfl ⟨rfl, ?_⟩
           exact ((((Below.refl _ _).alloc (Nat.le_refl _) _).alloc (by simp) _).alloc (by simp; omega) _).alloc (by simp; omega) _)
    · first
        | (exfalso; omega)
        | (subst hr
           refine bodyPost_ret (v := .agg #[.int .i64 0, .int .u64 0, .int .u64 0]) (by simp [results, Try.results38, go_sem]) rfl ⟨rfl, ?_⟩
           exact ((((Below.refl _ _).alloc (Nat.le_refl _) _).alloc (by simp) _).alloc (by simp; omega) _).alloc (by simp; omega) _)
end Go.Proofs.Ytcfmcakdgamdmaa
