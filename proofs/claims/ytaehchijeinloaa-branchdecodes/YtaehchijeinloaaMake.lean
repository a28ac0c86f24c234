/- kids: children with keys of a byte each. -/
import Derived.Test.YtaehchijeinloaaSame
namespace Go.Proofs.Ytaehchijeinloaa
open Go.RowKit

/-- Kids while their keys are put together. -/
structure Made (w : World) (wx : World) (vp vk : Value) (F : List Kc) (ks : List Key) : Prop where
  box0 : KBox wx w.heap.size (.slice none 0 0) (.slice none 0 0)
  box1 : KBox wx (w.heap.size + 1) vp vk
  row : wx.ownsRow w.heap.size 27 1 vk F.length (F.map Kc.v)
  keys : ∀ e ∈ F, NewKey w.heap.size wx e.v e.k
  is : keysOf F = ks
  low : Below w.heap.size w wx
theorem Made.step {w wx w1 w2 : World} {vp vk vk' : Value} {F : List Kc} {e : Kc} {ks : List Key} (h : Made w wx vp vk F ks) (h1 : Below wx.heap.size wx w1) (hk : Keep 27 w.heap.size w1 w2) (ho : w2.ownsRow w.heap.size 27 1 vk' (F.length + 1) (F.map Kc.v ++ [e.v])) (he : NewKey w.heap.size w1 e.v e.k) :
    Made w (w2.setCell ⟨w.heap.size + 1, 1, none⟩ vk') vp vk' (F ++ [e]) (ks ++ [e.k]) := by
  have hs := h.low.size
  have hK : Keep 27 w.heap.size wx w2 := (Keep.of h1 hs).trans hk
  have b1 := h.box1.keep hK (by decide)
  have hK2 : Keep 26 w.heap.size w2 (w2.setCell ⟨w.heap.size + 1, 1, none⟩ vk') := keep_set b1.row (Nat.le_succ _) _
  refine ⟨(h.box0.keep hK (by decide)).other _ (by omega), b1.set1 _, ?_, fun x hx => ?_, by rw [← h.is]; simp [keysOf], h.low.trans (hK.low.trans hK2.low)⟩
  · have e1 : (F ++ [e]).length = F.length + 1 := by simp
    rw [e1, List.map_append]
    exact own_same ho fun b hb _ => by
      obtain ⟨_, _, cur, hc⟩ := own_type ho b hb
      exact (hK2.typ _ _ _ _ (by decide) hc).trans hc.symm
  · rcases List.mem_append.1 hx with h' | h'
    · exact ((h.keys x h').keep hK (by decide)).keep hK2 (by decide)
    · simp at h'; rw [h']; exact (he.keep hk (by decide)).keep hK2 (by decide)
theorem Made.mid {w wx w1 w2 : World} {vp vk : Value} {F : List Kc} {ks : List Key} (h : Made w wx vp vk F ks) (h1 : Below wx.heap.size wx w1) (hk : Keep 27 w.heap.size w1 w2) : KBox w2 (w.heap.size + 1) vp vk :=
  h.box1.keep ((Keep.of h1 h.low.size).trans hk) (by decide)
theorem lit_new {base : Nat} {w w' : World} {c : UInt8} (hb : base ≤ w.heap.size) (h : Below (w.heap.size + 1) (w.alloc (.cells #[.int .u8 (c.toNat : Int)] 5)) w') : NewKey base w' (.slice (some ⟨w.heap.size, 0, none⟩) 1 1) [c] := by
  refine ⟨⟨by simp, .inr ⟨w.heap.size, 1, #[.int .u8 (c.toNat : Int)], rfl, hb, ?_, Nat.le_refl _, by unfold maxLen; omega, rfl, rfl⟩⟩, by simp⟩
  rw [h.block _ (by omega)]
  exact heap_alloc_last _ _

/-- The world ahead of the append. -/
def litW (w : World) (c : UInt8) : World := ((w.drew.alloc (.cells #[.int .u8 (c.toNat : Int)] 5)).alloc (.cells #[.slice (some ⟨w.heap.size, 0, none⟩) 1 1] 27))
theorem litW_below (w : World) (c : UInt8) : Below w.heap.size w (litW w c) := (((Below.refl _ w).drew.alloc (Nat.le_refl _) _)).alloc (by simp) _
theorem litW_size (w : World) (c : UInt8) : (litW w c).heap.size = w.heap.size + 2 := by simp [litW]
theorem litW_src (w : World) (c : UInt8) : ∀ (j : Nat) (x : Value), [Value.slice (some ⟨w.heap.size, 0, none⟩) 1 1][j]? = some x → (litW w c).cell? ((⟨w.heap.size + 1, 0, none⟩ : Addr).add j) = some x := by
  have := one_src (w.drew.alloc (.cells #[.int .u8 (c.toNat : Int)] 5)) 27 (.slice (some ⟨w.heap.size, 0, none⟩) 1 1)
  rw [show (w.drew.alloc (.cells #[.int .u8 (c.toNat : Int)] 5)).heap.size = w.heap.size + 1 by simp] at this
  exact this
theorem Made.step2 {w wx w7 : World} {vp : Value} {av : Option Addr} {k cv g7 c7 : Nat} {F : List Kc} {ks : List Key} {c : UInt8} (h : Made w wx vp (.slice av k cv) F ks) (hF : F.length = k) (hg : (litW wx c).grownBy w7 (Value.slice av k cv).ownBlock) (ho : w7.ownsRow w.heap.size 27 1 (.slice (some ⟨g7, 0, none⟩) (k + 1) c7) (k + 1) (F.map Kc.v ++ [.slice (some ⟨wx.heap.size, 0, none⟩) 1 1])) :
    Made w (w7.setCell ⟨w.heap.size + 1, 1, none⟩ (.slice (some ⟨g7, 0, none⟩) (k + 1) c7)) vp (.slice (some ⟨g7, 0, none⟩) (k + 1) c7) (F ++ [⟨.slice (some ⟨wx.heap.size, 0, none⟩) 1 1, [c]⟩]) (ks ++ [[c]]) ∧ (F ++ [(⟨.slice (some ⟨wx.heap.size, 0, none⟩) 1 1, [c]⟩ : Kc)]).length = k + 1 := by
  have hs := h.low.size
  have hrow : (litW wx c).ownsRow w.heap.size 27 1 (.slice av k cv) F.length (F.map Kc.v) := own_same h.row fun b _ hl => (litW_below wx c).block b hl
  have hk := Keep.grown hrow hg (by rw [litW_size]; omega)
  refine ⟨h.step (e := ⟨.slice (some ⟨wx.heap.size, 0, none⟩) 1 1, [c]⟩) (litW_below wx c) hk (by rw [hF]; exact ho) ?_, by simp [hF]⟩
  exact lit_new (w := wx.drew) hs (Below.mono (below_new _ _) (by simp))
theorem Made.mid2 {w wx w7 : World} {vp : Value} {av : Option Addr} {k cv : Nat} {F : List Kc} {ks : List Key} {c : UInt8} (h : Made w wx vp (.slice av k cv) F ks) (_ : wx.ownsRow w.heap.size 27 1 (.slice av k cv) k (F.map Kc.v)) (hg : (litW wx c).grownBy w7 (Value.slice av k cv).ownBlock) : KBox w7 (w.heap.size + 1) vp (.slice av k cv) := by
  have hs := h.low.size
  have hrow : (litW wx c).ownsRow w.heap.size 27 1 (.slice av k cv) F.length (F.map Kc.v) := own_same h.row fun b _ hl => (litW_below wx c).block b hl
  exact h.mid (litW_below wx c) (Keep.grown hrow hg (by rw [litW_size]; omega))

set_option maxHeartbeats 1600000 in
set_option maxRecDepth 100000 in
theorem kids_any {w : World} {vp : Value} {ps : List Int} {bs : Key} (h : IntsAt w.heap.size w vp ps) (hl : bs.length ≤ 3) :
    Calls Try.prog 29 #[.string (strB bs), vp] w fun r w' => ∃ v' L, r = .returned v' ∧ KidsAt w'.heap.size w' v' ps L ∧ keysOf L = bs.map (fun c => [c]) ∧ Below w.heap.size w w' := by
  obtain ⟨i7, hi7, hz70, hz71, hz72⟩ := infoB'
  obtain ⟨a1, c1, rfl⟩ := h.form
  have HP : Hid (IntsAt w.heap.size w (.slice a1 ps.length c1) ps) := h
  have hsz : (strB bs).size = bs.length := str_size bs
  obtain ⟨W, hW⟩ : ∃ W, W = (w.alloc (.cells #[.slice none 0 0, .slice none 0 0] 26)).alloc (.cells #[.slice a1 ps.length c1, .slice none 0 0] 26) := ⟨_, rfl⟩
  have HM0 : Hid (Made w W (.slice a1 ps.length c1) (.slice none 0 0) [] []) := by
    rw [hW]
    refine ⟨(KBox.new w _ _).here (below_new _ _), ?_, World.ownsRow_nil _ _ _ _, fun e he => by simp at he, rfl, (below_new w _).alloc (by simp) _⟩
    have := KBox.new (w.alloc (.cells #[.slice none 0 0, .slice none 0 0] 26)) (.slice a1 ps.length c1) (.slice none 0 0)
    simpa using this
  clear h
  go_enter Try.func29, Try.ntmps29
  go_wp2_with fail
  rw [← hW]
  clear hW
  go_loopw [6] (fun i wx => ∃ (k : Nat) (vk : Value) (F : List Kc), k ≤ bs.length ∧ i = .int .i64 k ∧ Made w wx (.slice a1 ps.length c1) vk F ((bs.take k).map fun c => [c]) ∧ F.length = k) (fun i _ => bs.length - (intOf i).toNat)
  case atStart => exact ⟨0, _, [], by omega, rfl, HM0.out, rfl⟩
  case round =>
    obtain ⟨k, vk, F, hk, rfl, hm, hF⟩ := hrel
    have HM : Hid (Made w wr (.slice a1 ps.length c1) vk F ((bs.take k).map fun c => [c])) := hm
    by_cases hlt : k < bs.length
    · have hz : (k : Int) < (bs.length : Int) := by omega
      obtain ⟨c, hc⟩ : ∃ c, bs[k]? = some c := ⟨_, List.getElem?_eq_getElem hlt⟩
      have hgk : (strB bs)[k]'(by rw [hsz]; exact hlt) = c := by
        obtain ⟨h1, h2⟩ := List.getElem?_eq_some_iff.1 hc
        rw [← h2]
        rfl
      obtain ⟨av, cv, ev⟩ : ∃ a c, vk = .slice a k c := by
        obtain ⟨a, c, e⟩ := (own_cells hm.row (by simp)).form
        rw [List.length_map, hF] at e
        exact ⟨a, c, e⟩
      subst ev
      obtain ⟨_, x1⟩ := hm.box1.cells
      have xa : ∀ o, (wr.alloc o).cell? ⟨w.heap.size + 1, 1, none⟩ = some (.slice av k cv) := fun o => ((hm.box1.here (below_new _ _)).cells).2
      have xb : ∀ o o', ((wr.alloc o).alloc o').cell? ⟨w.heap.size + 1, 1, none⟩ = some (.slice av k cv) := fun o o' => (((hm.box1.here (below_new _ _)).here (below_new _ _)).cells).2
      have HROW : Hid (wr.ownsRow w.heap.size 27 1 (.slice av k cv) k (F.map Kc.v)) := by
        have := hm.row
        rw [hF] at this
        exact this
      have hwr := hm.low.size
      have HF : Hid (F.length = k) := hF
      clear hm hF
      have HCK : Hid (bs[k]? = some c) := hc
      clear hc
      go_wp2_with fail
      have HTK : Hid ((bs.take (k + 1)).map (fun c => [c]) = (bs.take k).map (fun c => [c]) ++ [[c]]) := by rw [Hid, List.take_add_one, HCK.out]; simp
      go_region_law
        (refine step_append_lies _ (by rfl) _ _ 24 (by rfl) w.heap.size 27 i7 (.slice none 0 0) 1 24 Try.underlying24 hi7 hz70 hz71 hz72 rfl (by decide) (.slice av k cv) k (F.map Kc.v) (by rfl) (by exact own_same HROW.out fun b _ hl => ((((Below.refl _ wr).drew.alloc (Nat.le_refl _) _)).alloc (by simp) _).block b hl) ⟨wr.heap.size + 1, 0, none⟩ 1 1 [.slice (some ⟨wr.heap.size, 0, none⟩) 1 1] (by rfl) rfl (by exact litW_src wr c) (by intro u hu; simp at hu; subst hu; rfl) (by decide) (by unfold maxLen; omega) (by omega) (by simp; omega) _ rfl ?_
         intro g7 c7 w7 ho7 hg7 hat7 hlt7
         have HM7 : Hid _ := HM.out.step2 (c := c) HF.out hg7 ho7
         have hbx := HM.out.mid2 (c := c) HROW.out hg7
         obtain ⟨_, z1⟩ := hbx.cells
         obtain ⟨_, v1⟩ := hbx.open
         clear ho7 hat7 hlt7 hbx hg7)
      all_goals
        go_wp2
        exact ⟨⟨k + 1, _, _, by omega, by go_num, by rw [HTK.out]; exact HM7.out.1, HM7.out.2⟩, by simp [intOf]; omega⟩
    · have hz : ¬ (k : Int) < (bs.length : Int) := by omega
      have HB0 : Hid (KBox wr w.heap.size (.slice none 0 0) (.slice none 0 0)) := hm.box0
      obtain ⟨av, cv, ev⟩ : ∃ a c, vk = .slice a F.length c := by
        obtain ⟨a, c, e⟩ := (own_cells hm.row (by simp)).form
        rw [List.length_map] at e
        exact ⟨a, c, e⟩
      subst ev
      have HIS : Hid (keysOf F = bs.map fun c => [c]) := by
        have := hm.is
        rw [List.take_of_length_le (by omega)] at this
        exact this
      obtain ⟨x0, x1⟩ := hm.box1.cells
      obtain ⟨y0, y1⟩ := hm.box0.cells
      obtain ⟨f0, f1⟩ := hm.box0.open
      have HFL : Hid (F.length * 24 ≤ 140737488420864) := by rw [Hid]; omega
      clear hm hF
      go_wp2
      have hk2 : Keep 26 w.heap.size wr ((wr.setCell ⟨w.heap.size, 0, none⟩ (.slice a1 ps.length c1)).setCell ⟨w.heap.size, 1, none⟩ (.slice av F.length cv)) := (keep_set HB0.out.row (Nat.le_refl _) _).trans (keep_set (HB0.out.set0 _).row (Nat.le_refl _) _)
      refine bodyPost_ret (ret_kids rfl rfl (HB0.out.put _ _)) rfl ⟨_, rfl, F, ⟨_, _, rfl, (HP.out.below (HM.out.low.trans hk2.low)).mono (HM.out.low.trans hk2.low).size, ?_⟩, HIS.out, HM.out.low.trans hk2.low⟩
      refine ⟨own_cells (own_same HM.out.row fun b hb _ => ?_) (by simp), HFL.out, fun e he => ((HM.out.keys e he).keep hk2 (by decide)).in⟩
      obtain ⟨_, _, cur, hcur⟩ := own_type HM.out.row b hb
      rw [hcur]
      exact hk2.typ _ _ _ _ (by decide) hcur
end Go.Proofs.Ytaehchijeinloaa
