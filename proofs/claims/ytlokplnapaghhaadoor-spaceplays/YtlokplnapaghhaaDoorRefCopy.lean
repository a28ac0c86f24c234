/- The document's Copy. -/
import Derived.Test.YtlokplnapaghhaaDoorRef2
namespace Go.Proofs.YtlokplnapaghhaaDoor
open Go.RowKit

set_option maxHeartbeats 800000 in
theorem rcopy_any (w : World) (b g c : Nat) (s : Sp) (h : RefAt w b g c s) :
    Calls Tryd.prog 34 #[.pointer (some ⟨b, 0, none⟩)] w fun e w' => ∃ b', e = .returned (.pointer (some ⟨b', 0, none⟩)) ∧ NewRef w w' b' s ∧ Below w.heap.size w w' := by
  obtain ⟨iO, hiO, hzO0, hzO1, hzO2⟩ := infoO'
  have c0 := h.cell
  have h65 := h.ok.high
  have h16 := h.ok.low
  obtain ⟨xs, hxs⟩ : ∃ xs : List Value, xs = (List.range s.n).map fun i => Value.bool (s.has i) := ⟨_, rfl⟩
  have hxl : xs.length = s.n * 1 := by rw [hxs]; simp
  have hxat : ∀ i, i < s.n → xs[i]? = some (.bool (s.has i)) := fun i hi => by rw [hxs]; simp [hi]
  have hnews : ∀ j u, xs[j]? = some u → w.cell? ((⟨g, 0, none⟩ : Addr).add j) = some u := fun j u hj => by
    have hl := (List.getElem?_eq_some_iff.1 hj).1
    rw [add_at, Nat.zero_add, h.at (by omega), ← hxat j (by omega), hj]
  have hone : ∀ u ∈ xs, u.oneCell' = true := fun u hu => by
    rw [hxs] at hu
    obtain ⟨i, _, rfl⟩ := List.mem_map.1 hu
    rfl
  have HX : Hid (∀ i, i < s.n → xs[i]? = some (.bool (s.has i))) := hxat
  have HNE : Hid _ := hnews
  have HON : Hid _ := hone
  have HOK : Hid s.Ok := h.ok
  have HXL : Hid _ := hxl
  clear h hxs hxat hnews hone hxl
  go_enter Tryd.func34, Tryd.ntmps34
  go_wp2_with (first
    | (refine wpList_built rfl 66 _ rfl (.slice (some ⟨g1, 0, none⟩) (0 + s.n) cap1) rfl _ (built_ref _ _ _) ?_)
    | (at_builtin
       refine wpList_append_lies _ rfl _ _ 51 rfl w.heap.size 4 iO (.bool false) 1 1 Tryd.underlying51 hiO hzO0 hzO1 hzO2 rfl (by decide) _ 0 [] rfl (World.ownsRow_nil _ _ _ _) ⟨g, 0, none⟩ s.n c xs rfl HXL.out HNE.out HON.out (by omega) (by unfold maxLen; omega) (by omega) (Nat.le_refl _) w.heap.size rfl ?_
       intro g1 cap1 w1 ho1 hg1 _ hlt1
       have HO1 : Hid _ := ho1
       have HB1 : Hid (Below w.heap.size w w1) := (Below.refl _ _).grown hg1 (Nat.le_refl _) (fun k e => by cases e)
       clear ho1 hg1))
  go_ret
  have hbn : Below w1.heap.size w1 (w1.alloc (.cells #[.slice (some ⟨g1, 0, none⟩) s.n cap1] 66)) := (Below.refl _ _).alloc (Nat.le_refl _) _
  refine ⟨_, rfl, ⟨⟨g1, cap1, ?_, ?_⟩, HB1.out.size⟩, HB1.out.trans (hbn.mono HB1.out.size)⟩
  · obtain ⟨_, hr⟩ := HO1.out
    rcases hr with ⟨e, _⟩ | ⟨g', cap, cur, e, _, hg, hc, _, _, ht⟩
    · cases e
    · cases e
      refine ⟨?_, ⟨cur, (hbn.block g1 hlt1).trans hg, fun i hi => ?_⟩, by omega, HOK.out⟩
      · rw [heap_alloc_last]
      · have h1 := HX.out i hi
        have h2 : (cur.toList.take ((0 + s.n) * 1))[i]? = some (.bool (s.has i)) := by rw [ht]; simpa using h1
        rw [List.getElem?_take] at h2
        split at h2
        · rw [← Array.getElem?_toList]; exact h2
        · cases h2
  · obtain ⟨_, hb2, _⟩ := own_type HO1.out g1 rfl
    exact hb2
end Go.Proofs.YtlokplnapaghhaaDoor
