/- The document's Copies. -/
import Derived.Test.YtaehchijeinloaaRepl
import Derived.Test.YtaehchijeinloaaSpansW1
namespace Go.Proofs.Ytaehchijeinloaa
open Go.RowKit

/-- While keys are copied. -/
structure CopyS (w wx : World) (vo : Value) (L F : List Kc) (k : Nat) : Prop where
  len : F.length = k
  keys : keysOf F = (keysOf L).take k
  news : NewKeys w.heap.size wx vo F
  low : Below w.heap.size w wx
theorem CopyS.step {w wx w4 w7 : World} {av : Option Addr} {k cv g c : Nat} {v1 : Value} {L F : List Kc} {key : Key} (h : CopyS w wx (.slice av k cv) L F k) (hkey : (keysOf L)[k]? = some key) (h4 : Below wx.heap.size wx w4) (hn : NewKey wx.heap.size w4 v1 key)
    (ho : w7.ownsRow w.heap.size 27 1 (.slice (some ⟨g, 0, none⟩) (k + 1) c) (k + 1) (F.map Kc.v ++ [v1])) (hg : (w4.alloc (.cells #[v1] 27)).grownBy w7 (Value.slice av k cv).ownBlock) :
    CopyS w w7 (.slice (some ⟨g, 0, none⟩) (k + 1) c) L (F ++ [⟨v1, key⟩]) (k + 1) := by
  have hs := h.low.size
  have hlen := h.len
  have hY : Below wx.heap.size wx (w4.alloc (.cells #[v1] 27)) := h4.trans ((below_new w4 _).mono h4.size)
  have hrow : (w4.alloc (.cells #[v1] 27)).ownsRow w.heap.size 27 1 (.slice av k cv) F.length (F.map Kc.v) := own_same h.news.own fun b _ hl => hY.block b hl
  have hkp : Keep 27 w.heap.size (w4.alloc (.cells #[v1] 27)) w7 := Keep.grown hrow hg (Nat.le_trans hs hY.size)
  refine ⟨by simp [hlen], ?_, ⟨?_, fun e he => ?_, ?_⟩, h.low.trans ((hY.mono hs).trans hkp.low)⟩
  · rw [List.take_add_one, hkey, ← h.keys]; simp [keysOf]
  · rw [List.length_append, List.map_append, hlen]; exact ho
  · rcases List.mem_append.1 he with h' | h'
    · exact ((h.news.keys e h').here hY).keep hkp (by decide)
    · simp at h'; subst h'
      exact ((hn.here (below_new w4 _)).mono hs).keep hkp (by decide)
  · rw [blocks_append, List.nodup_append]
    refine ⟨h.news.apart, ?_, fun a ha b hb e => ?_⟩
    · unfold blocks
      simp only [List.filterMap_cons, List.filterMap_nil]
      split <;> simp
    · obtain ⟨y, hy, hyb⟩ := mem_blocks ha
      have h3 := (own_type (h.news.keys y hy).1 a hyb).1
      obtain ⟨y2, hy2, hyb2⟩ := mem_blocks hb
      simp at hy2; subst hy2
      have h4 := (own_type hn.1 b hyb2).2.1
      omega
set_option maxHeartbeats 1600000 in
set_option maxRecDepth 100000 in
theorem refCopies_any {w : World} {v : Value} {L : List Kc} (h : KeysAt w.heap.size w v L) (hl : L.length ≤ 4294967296) :
    Calls Try.prog 48 #[v] w fun r w' => ∃ v', r = .returned v' ∧ ∃ F, NewKeys w.heap.size w' v' F ∧ keysOf F = keysOf L ∧ Below w.heap.size w w' := by
  obtain ⟨i7, hi7, hz70, hz71, hz72⟩ := infoB'
  have hs := h.short
  obtain ⟨a, c, rfl⟩ := h.form
  have HK : Hid (KeysAt w.heap.size w (.slice a L.length c) L) := h
  clear h
  go_enter Try.func48, Try.ntmps48
  go_wp2_with fail
  go_loopw [3, 4] (fun o i wx => ∃ (k : Nat) (F : List Kc) (vo : Value), k ≤ L.length ∧ vo = o ∧ i = .int .i64 k ∧ CopyS w wx vo L F k) (fun _ i _ => L.length - (intOf i).toNat)
  case atStart => exact ⟨0, [], _, by omega, rfl, rfl, rfl, by simp [keysOf], NewKeys.nil _ _, Below.refl _ _⟩
  case round =>
    obtain ⟨k, F, vo, hk, rfl, rfl, hf⟩ := hrel
    by_cases hlt : k < L.length
    · have hz : (k : Int) < (L.length : Int) := by omega
      obtain ⟨e, he⟩ : ∃ e, L[k]? = some e := ⟨_, List.getElem?_eq_getElem hlt⟩
      obtain ⟨av, cv, ev⟩ : ∃ a c, vo = .slice a k c := by
        obtain ⟨a, c, e⟩ := (own_cells hf.news.own (by simp)).form
        rw [List.length_map, hf.len] at e
        exact ⟨a, c, e⟩
      subst ev
      have HF : Hid (CopyS w wr (.slice av k cv) L F k) := hf
      have hKr := HK.out.here hf.low
      obtain ⟨g, off, _, e1, hcell⟩ := hKr.cell k e he
      cases e1
      have hok := (hKr.ok e (List.mem_of_getElem? he)).at (Nat.le_refl _)
      have hsh := hok.short
      obtain ⟨ae, ce, e2⟩ := hok.in.form
      have xa : (wr.alloc (.cells #[] 5)).cell? ⟨g, off + k, none⟩ = some (.slice ae e.k.length ce) := by
        obtain ⟨g', off', _, e1', hc'⟩ := (hKr.here (below_new wr (.cells #[] 5))).cell k e he
        cases e1'
        rw [hc', e2]
      rw [e2] at hcell hok
      have HOK : Hid (KeyAt (wr.alloc (.cells #[] 5)) (.slice ae e.k.length ce) e.k) := hok.here (below_new _ _)
      have HKEY : Hid ((keysOf L)[k]? = some e.k) := keysOf_get he
      have HROW : Hid (wr.ownsRow w.heap.size 27 1 (.slice av k cv) k (F.map Kc.v)) := by have := hf.news.own; rw [hf.len] at this; exact this
      have hwr := hf.low.size
      clear hf hKr hok e2 he
      go_wp2_with (first
        | (at_builtin; go_loud (
           refine wpList_append_key rfl _ _ rfl wr.heap.size (.slice (some ⟨wr.heap.size, 0, none⟩) 0 0) _ [] e.k rfl (newE wr) rfl HOK.out (by simp; omega) (by simp) ?_
           intro v1 w4 hv1 hk4
           obtain ⟨an, nn, cn, rfl⟩ := hv1.shape
           have HV1 : Hid (NewKey wr.heap.size w4 (.slice an nn cn) e.k) := hv1
           have HB4 : Hid (Below wr.heap.size wr w4) := (below_new wr _).trans (hk4.low.mono (by simp))
           have HNW : Hid _ := one_src w4 27 (.slice an nn cn)
           have HO4 : Hid ((w4.alloc (.cells #[.slice an nn cn] 27)).ownsRow w.heap.size 27 1 (.slice av k cv) k (F.map Kc.v)) := own_same HROW.out fun b _ hl => (HB4.out.trans ((below_new w4 _).mono HB4.out.size)).block b hl
           clear hv1 hk4))
        | (at_builtin; go_loud (
           refine wpList_append_lies _ rfl _ _ 24 rfl w.heap.size 27 i7 (.slice none 0 0) 1 24 Try.underlying24 hi7 hz70 hz71 hz72 rfl (by decide) (.slice av k cv) k (F.map Kc.v) rfl HO4.out ⟨w4.heap.size, 0, none⟩ 1 1 [.slice an nn cn] rfl rfl HNW.out (by intro u hu; simp at hu; subst hu; rfl) (by decide) (by unfold maxLen; omega) (by omega) (Nat.le_trans hwr (Nat.le_trans HB4.out.size (by simp))) _ rfl ?_
           intro g7 c7 w7 ho7 hg7 _ _
           have HS7 : Hid _ := HF.out.step HKEY.out HB4.out HV1.out ho7 hg7
           clear ho7 hg7)))
      exact ⟨⟨k + 1, _, _, by omega, rfl, by go_num, HS7.out⟩, by simp [intOf]; omega⟩
    · have hz : ¬ (k : Int) < (L.length : Int) := by omega
      have HF : Hid _ := hf
      clear hf
      go_wp2
      go_ret
      exact ⟨_, rfl, F, HF.out.news, by rw [HF.out.keys, List.take_of_length_le (by rw [keysOf_length]; omega)], HF.out.low⟩
end Go.Proofs.Ytaehchijeinloaa
