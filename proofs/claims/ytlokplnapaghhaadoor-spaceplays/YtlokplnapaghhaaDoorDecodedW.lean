/- The law's decoded. -/
import Derived.Test.YtlokplnapaghhaaDoorWorld
import Derived.Test.YtlokplnapaghhaaDoorDecodesW
namespace Go.Proofs.YtlokplnapaghhaaDoor
open Go.RowKit

/-- Bytes that came in, put behind others. -/
theorem wpList_append_in {w : World} {ops : Array Oper} {rest : List Oper} {o : Oper} {a : Act} {Q : Exit → Act → World → Prop} (hgd : o.guard = none) (s x : Operand)
    (ho : o.op = .call { callee := .builtin .append, args := #[s, x], argTypes := #[37, 37] }) (base : Nat)
    (v : Value) (L bs : List UInt8) (hs : a.eval s = v) (hv : NewB base w v L) (ao : Option Addr) (c : Nat) (hx : a.eval x = .slice ao bs.length c) (hb : BytesAt w.heap.size w ao bs) (hn : ao = none → c = 0)
    (hlen : L.length + bs.length ≤ 140737488355328) (hbase : base ≤ w.heap.size)
    (h : ∀ v' w', NewB base w' v' (L ++ bs) → Keep 5 base w w' → wpList Tryd.prog ops Q rest (a.put o.dst v') w') : wpList Tryd.prog ops Q (o :: rest) a w := by
  obtain ⟨i0, hi, hz0, hz1, hz2⟩ := infoB'
  cases ao with
  | none =>
    have h0 : bs = [] := by
      cases bs with
      | nil => rfl
      | cons b r => obtain ⟨_, _, e, _⟩ := hb 0 b rfl; cases e
    subst h0
    obtain rfl := hn rfl
    refine wpList_append_own_none hgd s x 37 ho base 5 i0 1 Tryd.underlying37 hi _ _ _ hs hv hx ?_
    exact h v w (by rw [List.append_nil]; exact hv) (Keep.refl _ _ _)
  | some ad =>
    refine wpList_append_own w hgd s x 37 ho base 5 i0 _ 1 1 Tryd.underlying37 hi hz0 hz1 hz2 rfl (by decide) _ _ _ hs hv ad bs.length c (bs.map encB) hx (by simp) ?_ ?_ (by unfold maxLen; omega) (by omega) hbase ?_
    · intro j u hj
      rw [List.getElem?_map] at hj
      cases e : bs[j]? with
      | none => rw [e] at hj; cases hj
      | some b =>
        rw [e] at hj
        cases hj
        obtain ⟨g', off, e1, _, hc⟩ := hb j b e
        cases e1
        rw [add_at]
        exact hc
    · intro u hu
      obtain ⟨b, _, rfl⟩ := List.mem_map.1 hu
      rfl
    · intro v' w' hown hgr _
      refine h v' w' ?_ (Keep.grown hv hgr hbase)
      show w'.ownsRow base 5 1 v' (L ++ bs).length ((L ++ bs).map encB)
      rw [List.length_append, List.map_append]
      exact hown
theorem new_empty (w : World) : NewB w.heap.size (w.alloc (.cells #[] 5)) (.slice (some ⟨w.heap.size, 0, none⟩) 0 0) [] :=
  ⟨rfl, .inr ⟨w.heap.size, 0, #[], rfl, Nat.le_refl _, heap_alloc_last w _, Nat.le_refl _, Nat.zero_le _, rfl, rfl⟩⟩
theorem slice_head (w : World) (g off len cap q : Nat) (h : q ≤ cap) (h0 : ¬ cap = 0) :
    (Instr.slice 37 (.slice (some ⟨g, off, none⟩) len cap) none (some (.int .i64 (q : Int))) none).run Tryd.prog w = .ok (.slice (some ⟨g, off, none⟩) q cap) w := by
  rw [run_slice_h w 37 _ len cap (by rw [elem_bytes]; exact Tryd.underlying37) .i64 (q : Int) (by omega) (by omega), elem_bytes, Tryd.sizeOf5]
  simp [Result.andThen, sliced, h0, add_at]
theorem newB_set {base : Nat} {w : World} {g n c i : Nat} {L : List UInt8} (h : NewB base w (.slice (some ⟨g, 0, none⟩) n c) L) (y : UInt8) : NewB base (w.setCell ⟨g, i, none⟩ (encB y)) (.slice (some ⟨g, 0, none⟩) n c) (L.set i y) := by
  obtain ⟨h1, h2⟩ := h
  refine ⟨by simp, ?_⟩
  rcases h2 with ⟨e, _⟩ | ⟨g', cap', cur, e, hb, hg, hc, hm, hs, ht⟩
  · cases e
  · cases e
    refine .inr ⟨g, c, cur.setIfInBounds i (encB y), by simp, hb, heap_set_same _ hg, by simpa using hc, hm, by simpa using hs, ?_⟩
    rw [List.length_set, Array.toList_setIfInBounds, List.take_set, ht, List.map_set]
theorem newB_parts {base : Nat} {w : World} {v : Value} {L : List UInt8} (h : NewB base w v L) (hl : 0 < L.length) : ∃ g c, v = .slice (some ⟨g, 0, none⟩) L.length c ∧ base ≤ g ∧ L.length ≤ c := by
  obtain ⟨_, h2⟩ := h
  rcases h2 with ⟨_, h0⟩ | ⟨g', cap', cur, e, hb, hg, hc, _⟩
  · omega
  · exact ⟨g', cap', e, hb, hc⟩
theorem newB_cell {base : Nat} {w : World} {g n c i : Nat} {L : List UInt8} {y : UInt8} (h : NewB base w (.slice (some ⟨g, 0, none⟩) n c) L) (hy : L[i]? = some y) : w.cell? ⟨g, i, none⟩ = some (.int .u8 (y.toNat : Int)) ∧ w.frozen? ⟨g, i, none⟩ = false := by
  obtain ⟨_, _, cur, hcur⟩ := own_type h g rfl
  rcases own_row h with ⟨e, _⟩ | ⟨g', c', e, _, _, hc⟩
  · cases e
  · cases e
    exact ⟨hc i _ (by rw [List.getElem?_map, hy]; rfl), row_frozen hcur i⟩
theorem newB_block {base : Nat} {w : World} {g n c : Nat} {L : List UInt8} (h : NewB base w (.slice (some ⟨g, 0, none⟩) n c) L) : ∃ cur, w.heap[g]? = some (.cells cur 5 (0, 0)) := (own_type h g rfl).2.2
/-- A space that takes another's place. -/
theorem WAt.place {base : Nat} {w : World} {p : Nat} {A B G C : Bool → Nat} {S : Bool → Sp} (h : WAt base w p A B G C S) (k : Bool) {N gs b g c : Nat} {s : Sp} (hN : ∀ j, A j < N ∧ B j < N ∧ G j < N) (hb : base ≤ N) (hs : SpaceAt w gs s) (hr : RefAt w b g c s) (h1 : N ≤ gs) (h2 : N ≤ b) (h3 : N ≤ g) :
    WAt base ((w.setCell ⟨p, idx k, none⟩ (.pointer (some ⟨gs, 0, none⟩))).setCell ⟨p, 2 + idx k, none⟩ (.pointer (some ⟨b, 0, none⟩))) p (upd A k gs) (upd B k b) (upd G k g) (upd C k c) (upd S k s) ∧ Kept (fun i => i = p) w ((w.setCell ⟨p, idx k, none⟩ (.pointer (some ⟨gs, 0, none⟩))).setCell ⟨p, 2 + idx k, none⟩ (.pointer (some ⟨b, 0, none⟩))) := by
  have k1 := setCell_kept (w := w) (b := p) (i := idx k) (.pointer (some ⟨gs, 0, none⟩))
  have k2 := setCell_kept (w := w.setCell ⟨p, idx k, none⟩ (.pointer (some ⟨gs, 0, none⟩))) (b := p) (i := 2 + idx k) (.pointer (some ⟨b, 0, none⟩))
  have kk := k1.trans k2 (fun _ _ x => x)
  refine ⟨⟨?_, fun j => ?_, fun j => ?_, ?_, ?_, ?_, h.lp, fun j => ?_, fun j => ?_, fun j => ?_⟩, kk⟩
  · rw [heap_set_same _ (heap_set_same _ h.box)]
    cases k <;> rfl
  · by_cases e : j = k
    · subst e; rw [upd_same, upd_same]; exact hs.kept kk (Ne.symm (tagw h.box hs.cells (by decide)))
    · rw [upd_other _ _ e, upd_other _ _ e]; exact (h.sp j).kept kk (Ne.symm (tagw h.box (h.sp j).cells (by decide)))
  · by_cases e : j = k
    · subst e; rw [upd_same, upd_same, upd_same, upd_same]
      obtain ⟨cur, hcur⟩ := hr.rowIs
      exact hr.kept kk (Ne.symm (tagw h.box hr.box (by decide))) (Ne.symm (tagw h.box hcur (by decide)))
    · rw [upd_other _ _ e, upd_other _ _ e, upd_other _ _ e, upd_other _ _ e]
      obtain ⟨cur, hcur⟩ := (h.rf j).rowIs
      exact (h.rf j).kept kk (Ne.symm (tagw h.box (h.rf j).box (by decide))) (Ne.symm (tagw h.box hcur (by decide)))
  · have := hN false; have := hN true
    cases k <;> simp [upd] <;> omega
  · have := hN false; have := hN true
    cases k <;> simp [upd] <;> omega
  · have := hN false; have := hN true
    cases k <;> simp [upd] <;> omega
  · by_cases e : j = k
    · subst e; rw [upd_same]; omega
    · rw [upd_other _ _ e]; exact h.lA j
  · by_cases e : j = k
    · subst e; rw [upd_same]; omega
    · rw [upd_other _ _ e]; exact h.lB j
  · by_cases e : j = k
    · subst e; rw [upd_same]; omega
    · rw [upd_other _ _ e]; exact h.lG j
theorem WAt.keptB {base : Nat} {w w' : World} {p : Nat} {A B G C : Bool → Nat} {S : Bool → Sp} (h : WAt base w p A B G C S) {g : Nat} {cur : Array Value} (hg : w.heap[g]? = some (.cells cur 5 (0, 0))) (k : Kept (fun i => i = g) w w') : WAt base w' p A B G C S :=
  ⟨by rw [k.block p h.lt (tagw h.box hg (by decide))]; exact h.box, fun j => (h.sp j).kept k (tagw (h.sp j).cells hg (by decide)), fun j => by
    obtain ⟨cj, hj⟩ := (h.rf j).rowIs
    exact (h.rf j).kept k (tagw (h.rf j).box hg (by decide)) (tagw hj hg (by decide)), h.apA, h.apB, h.apG, h.lp, h.lA, h.lB, h.lG⟩
/-- Some two spaces. -/
structure WSome (base : Nat) (w : World) (p : Nat) : Prop where
  is : ∃ A B G C S, WAt base w p A B G C S
theorem xor9 (x : UInt8) : bits .xor .u8 (x.toNat : Int) 9 = ((x ^^^ 9).toNat : Int) := by
  have := u8_xor_nat x.toNat 9 (UInt8.toNat_lt x) (by decide)
  rw [UInt8.toNat_xor]
  exact this
set_option maxHeartbeats 4000000 in
set_option maxRecDepth 100000 in
theorem decoded_any (base : Nat) (w : World) (p : Nat) (A B G C : Bool → Nat) (S : Bool → Sp) (h : WAt base w p A B G C S) (hb : base ≤ w.heap.size) (k : Bool) (a : Option Addr) (c : Nat) (bs : List UInt8) (hbs : BytesAt w.heap.size w a bs) (hc : bs.length ≤ c) (hn : a = none → c = 0) (hs : bs.length ≤ 140737488351232) :
    Calls Tryd.prog 35 #[.pointer (some ⟨p, 0, none⟩), .int .i64 (idx k : Int), .slice a bs.length c] w fun e w' => e = .returned (.bool true) ∧ WSome base w' p ∧ Below base w w' := by
  obtain ⟨n, hn0⟩ : ∃ n, n = (S k).n := ⟨_, rfl⟩
  have h16 : 16 ≤ n := by rw [hn0]; exact (h.sp k).ok.low
  have h65 : n ≤ 65536 := by rw [hn0]; exact (h.sp k).ok.high
  have HN0 : Hid (n = (S k).n) := hn0
  have H : Hid (WAt base w p A B G C S) := h
  have HBS : Hid (BytesAt w.heap.size w a bs) := hbs
  have hi := idx_lt k
  have hiz : (idx k : Int) < 2 := by omega
  have HE : Hid (NewB w.heap.size (w.alloc (.cells #[] 5)) (.slice (some ⟨w.heap.size, 0, none⟩) 0 0) []) := new_empty w
  have HB0 : Hid (Below w.heap.size w (w.alloc (.cells #[] 5))) := (Below.refl _ _).alloc (Nat.le_refl _) _
  have hl0 : ([] : List UInt8).length + bs.length ≤ 140737488355328 := by simp; omega
  clear h hbs hn0
  by_cases hd : Dec n bs
  · go_enter Tryd.func35, Tryd.ntmps35
    go_wp2_with (first
      | (at_builtin
         refine wpList_append_byte rfl _ _ rfl w.heap.size v1 bs 167 rfl HVA.out w1.heap.size rfl HCA.out (by omega) HSA.out ?_
         intro v2 w2 hv2 _ hk2
         have HV2 : Hid (NewB w.heap.size w2 v2 (bs ++ [167])) := hv2
         have HB2 : Hid (Below w.heap.size w w2) := HBA.out.trans hk2.low
         obtain ⟨g2, c2, rfl, hg2, hbc2⟩ : ∃ g c, v2 = .slice (some ⟨g, 0, none⟩) (bs.length + 1) c ∧ w.heap.size ≤ g ∧ bs.length + 1 ≤ c := by
           have := newB_parts hv2 (by simp)
           simpa using this
         have cx := (H.out.below HB2.out).cellX k
         have cl := ((H.out.below HB2.out).rf k).cell
         rw [← HN0.out] at cl
         have HBB : Hid (BytesAt w2.heap.size w2 (some ⟨g2, 0, none⟩) bs) := by
           obtain ⟨a', c', e', hb'⟩ := newB_at HV2.out
           simp at e'
           obtain ⟨rfl, rfl⟩ := e'
           have := bytes_take hb' bs.length
           rwa [List.take_left] at this
         clear hv2 hk2)
      | (at_builtin
         refine wpList_append_in rfl _ _ rfl w.heap.size (.slice (some ⟨w.heap.size, 0, none⟩) 0 0) [] bs rfl HE.out a c rfl (BytesAt.here HBS.out HB0.out) hn hl0 HB0.out.size ?_
         intro v1 w1 hv1 hk1
         have HV1 : Hid (NewB w.heap.size w1 v1 bs) := hv1
         have HB1 : Hid (Below w.heap.size w w1) := HB0.out.trans hk1.low
         have hbn : Below w1.heap.size w1 (w1.alloc (.cells #[.int .u8 167] 5)) := (Below.refl _ _).alloc (Nat.le_refl _) _
         have HVA : Hid (NewB w.heap.size (w1.alloc (.cells #[.int .u8 167] 5)) v1 bs) := own_here hv1 hbn
         have HCA : Hid ((w1.alloc (.cells #[.int .u8 167] 5)).cell? ⟨w1.heap.size, 0, none⟩ = some (encB 167)) := by rw [Hid, row_cell (heap_alloc_last w1 _)]; rfl
         have HBA : Hid (Below w.heap.size w (w1.alloc (.cells #[.int .u8 167] 5))) := HB1.out.trans (hbn.mono HB1.out.size)
         have HSA : Hid (w.heap.size ≤ (w1.alloc (.cells #[.int .u8 167] 5)).heap.size) := HBA.out.size
         clear hv1 hk1 hbn)
      | (go_at_call 20; refine (decode_any w2 n h16 h65 (some ⟨g2, 0, none⟩) c2 bs HBB.out (by omega) (by omega)).mono ?_; intro e w3 hp
         obtain ⟨gs, s3, rfl, hgs, hs3, hsn, hsh, hb3⟩ := hp.get hd
         have HS3 : Hid (SpaceAt w3 gs s3) := hs3
         have HSN : Hid (s3.n = n ∧ ∀ k, k < n → s3.has k = inRuns (runsOf bs) k) := ⟨hsn, hsh⟩
         have HB23 : Hid (Below w2.heap.size w2 w3) := hb3
         have HB3 : Hid (Below w.heap.size w w3) := HB2.out.trans (hb3.mono HB2.out.size)
         clear hs3 hsn hsh hb3)
      | (go_at_call 21; refine (rdecode_any w3 n h16 h65 a c bs (BytesAt.here HBS.out HB3.out) hc (by omega)).mono ?_; intro e w4 hp
         obtain ⟨b4, t4, rfl, ⟨⟨gr, cr, hr4, hgr⟩, hbr⟩, htn, hth, hb4⟩ := hp.get hd
         have HR4 : Hid (RefAt w4 b4 gr cr t4) := hr4
         have HTN : Hid (t4.n = n ∧ ∀ k, k < n → t4.has k = inRuns (runsOf bs) k) := ⟨htn, hth⟩
         have HB24 : Hid (Below w2.heap.size w2 w4) := HB23.out.trans (hb4.mono HB23.out.size)
         have HB4 : Hid (Below w.heap.size w w4) := HB3.out.trans (hb4.mono HB3.out.size)
         have HS4 : Hid (SpaceAt w4 gs s3) := HS3.out.below hb4
         have HSZ : Hid (w2.heap.size ≤ w3.heap.size) := HB23.out.size
         clear hr4 htn hth hb4))
    have hv24 : NewB w.heap.size w4 (.slice (some ⟨g2, 0, none⟩) (bs.length + 1) c2) (bs ++ [167]) := own_here HV2.out HB24.out
    have HV24 : Hid _ := hv24
    have hc167 := (newB_cell (i := bs.length) (y := 167) hv24 (by simp)).1
    have hcq1 : ∀ q, (convert 37 9 (.slice (some ⟨g2, 0, none⟩) bs.length c2)).run Tryd.prog (w4.drewN q) = .ok (.string (strB bs)) (w4.drewN q) := fun q => conv_any bs.length c2 (BytesAt.here (w' := w4.drewN q) HBB.out (HB24.out.trans ⟨rfl, rfl, rfl, Nat.le_refl _, fun _ _ => rfl⟩)) rfl
    have hcq2 : ∀ q, (convert 37 9 (.slice a bs.length c)).run Tryd.prog (w4.drewN q) = .ok (.string (strB bs)) (w4.drewN q) := fun q => conv_any bs.length c (BytesAt.here (w' := w4.drewN q) HBS.out (HB4.out.trans ⟨rfl, rfl, rfl, Nat.le_refl _, fun _ _ => rfl⟩)) rfl
    have heq : ((strB bs).toList == (strB bs).toList) = true := by simp
    have hc20 : ¬ c2 = 0 := by omega
    have HW4 : Hid (WAt base w4 p A B G C S) := H.out.below HB4.out
    obtain ⟨cu2, hcu2⟩ := newB_block hv24
    have HCU : Hid _ := hcu2
    have HLT : Hid (∀ j, A j < w.heap.size ∧ B j < w.heap.size ∧ G j < w.heap.size) := fun j => ⟨(H.out.sp j).lt, (H.out.rf j).lt, (H.out.rf j).ltg⟩
    clear hv24 hcu2
    go_quiet (simp only [hcq1, hcq2])
    go_wp2
    clear hcq1 hcq2
    obtain ⟨w5, hw5⟩ : ∃ w5, w5 = w4.drewN nq := ⟨_, rfl⟩
    rw [← hw5]
    have HB45 : Hid (Below w4.heap.size w4 w5) := by rw [hw5]; exact ⟨rfl, rfl, rfl, Nat.le_refl _, fun _ _ => rfl⟩
    have HV5 : Hid (NewB w.heap.size w5 (.slice (some ⟨g2, 0, none⟩) (bs.length + 1) c2) (bs ++ [167])) := own_here HV24.out HB45.out
    clear hw5 hc167
    go_loopw [14] (fun i wx => ∃ (m : Nat) (L : List UInt8), m ≤ bs.length + 1 ∧ i = .int .i64 m ∧ L.length = bs.length + 1 ∧ NewB w.heap.size wx (.slice (some ⟨g2, 0, none⟩) (bs.length + 1) c2) L ∧ Kept (fun i => i = g2) w5 wx) (fun i _ => bs.length + 1 - (intOf i).toNat)
    case atStart => exact ⟨0, bs ++ [167], by omega, rfl, by simp, HV5.out, Kept.refl _ _⟩
    case round =>
      obtain ⟨m, L, hm, rfl, hLl, hv, hkp⟩ := hrel
      by_cases hlt : m < bs.length + 1
      · have hltz : (m : Int) < ((bs.length + 1 : Nat) : Int) := by omega
        have hltz2 : (m : Int) < (bs.length : Int) + 1 := by omega
        obtain ⟨y, hy⟩ : ∃ y, L[m]? = some y := ⟨L[m]'(by omega), List.getElem?_eq_getElem (by omega)⟩
        obtain ⟨hcy, hfy⟩ := newB_cell hv hy
        have hx9 := xor9 y
        have HV : Hid (NewB w.heap.size (wr.setCell ⟨g2, m, none⟩ (.int .u8 ((y ^^^ 9).toNat : Int))) (.slice (some ⟨g2, 0, none⟩) (bs.length + 1) c2) (L.set m (y ^^^ 9))) := newB_set hv (y ^^^ 9)
        have HK : Hid (Kept (fun i => i = g2) w5 (wr.setCell ⟨g2, m, none⟩ (.int .u8 ((y ^^^ 9).toNat : Int)))) := hkp.trans (setCell_kept _) (fun _ _ x => x)
        have HLL : Hid (L.length = bs.length + 1) := hLl
        clear hv hkp hLl hy
        go_wp2
        exact ⟨⟨m + 1, L.set m (y ^^^ 9), by omega, by go_num, by rw [List.length_set]; exact HLL.out, HV.out, HK.out⟩, by simp [intOf]; omega⟩
      · have hltz : ¬ (m : Int) < ((bs.length + 1 : Nat) : Int) := by omega
        have hltz2 : ¬ (m : Int) < (bs.length : Int) + 1 := by omega
        have hcu5 := (HB45.out.block g2 (Array.getElem?_eq_some_iff.1 HCU.out).1).trans HCU.out
        have HW6 : Hid (WAt base wr p A B G C S) := (HW4.out.below HB45.out).keptB hcu5 hkp
        have HB6 : Hid (Below w.heap.size w wr) := Kept.below (HB4.out.trans (HB45.out.mono HB4.out.size)) hkp (HB4.out.trans (HB45.out.mono HB4.out.size)).size (fun i hi => by omega)
        have HS6 : Hid (SpaceAt wr gs s3) := (HS4.out.below HB45.out).kept hkp (tagw (HS4.out.below HB45.out).cells hcu5 (by decide))
        have HR6 : Hid (RefAt wr b4 gr cr t4) := by
          have hr5 := HR4.out.below HB45.out
          obtain ⟨cj, hj⟩ := hr5.rowIs
          exact hr5.kept hkp (tagw hr5.box hcu5 (by decide)) (tagw hj hcu5 (by decide))
        have HR7 : Hid (RefAt wr b4 gr cr s3) := by
          obtain ⟨cur, hcur, hx⟩ := HR6.out.row
          have e1 : t4.n = s3.n := by rw [HTN.out.1, HSN.out.1]
          refine ⟨by rw [← e1]; exact HR6.out.box, ⟨cur, hcur, fun i hi => ?_⟩, by rw [← e1]; exact HR6.out.le, HS6.out.ok⟩
          have hin : i < n := by have := HSN.out.1; omega
          rw [hx i (by omega), HTN.out.2 i hin, HSN.out.2 i hin]
        have hsz2 := HB2.out.size
        have hsz3 := HSZ.out
        have HP : Hid _ := HW6.out.place k (N := w.heap.size) HLT.out hb HS6.out HR7.out (by omega) (by omega) (by omega)
        have cs6 := HW6.out.cellS k
        have cx6 := HW6.out.cellX k
        have fs6 := HW6.out.open (idx k)
        have fx6 := HW6.out.open (2 + idx k)
        have hpw := HW6.out.lp
        clear hv hkp hcu5 hLl
        go_wp2
        go_ret
        refine ⟨rfl, ⟨_, _, _, _, _, HP.out.1⟩, ?_⟩
        exact Kept.below (HB6.out.mono hb) HP.out.2 (by have := HB6.out.size; omega) (fun i hi => by omega)
  · go_enter Tryd.func35, Tryd.ntmps35
    go_wp2_with (first
      | (at_builtin
         refine wpList_append_byte rfl _ _ rfl w.heap.size v1 bs 167 rfl HVA.out w1.heap.size rfl HCA.out (by omega) HSA.out ?_
         intro v2 w2 hv2 _ hk2
         have HV2 : Hid (NewB w.heap.size w2 v2 (bs ++ [167])) := hv2
         have HB2 : Hid (Below w.heap.size w w2) := HBA.out.trans hk2.low
         obtain ⟨g2, c2, rfl, hg2, hbc2⟩ : ∃ g c, v2 = .slice (some ⟨g, 0, none⟩) (bs.length + 1) c ∧ w.heap.size ≤ g ∧ bs.length + 1 ≤ c := by
           have := newB_parts hv2 (by simp)
           simpa using this
         have cx := (H.out.below HB2.out).cellX k
         have cl := ((H.out.below HB2.out).rf k).cell
         rw [← HN0.out] at cl
         have HBB : Hid (BytesAt w2.heap.size w2 (some ⟨g2, 0, none⟩) bs) := by
           obtain ⟨a', c', e', hb'⟩ := newB_at HV2.out
           simp at e'
           obtain ⟨rfl, rfl⟩ := e'
           have := bytes_take hb' bs.length
           rwa [List.take_left] at this
         clear hv2 hk2)
      | (at_builtin
         refine wpList_append_in rfl _ _ rfl w.heap.size (.slice (some ⟨w.heap.size, 0, none⟩) 0 0) [] bs rfl HE.out a c rfl (BytesAt.here HBS.out HB0.out) hn hl0 HB0.out.size ?_
         intro v1 w1 hv1 hk1
         have HV1 : Hid (NewB w.heap.size w1 v1 bs) := hv1
         have HB1 : Hid (Below w.heap.size w w1) := HB0.out.trans hk1.low
         have hbn : Below w1.heap.size w1 (w1.alloc (.cells #[.int .u8 167] 5)) := (Below.refl _ _).alloc (Nat.le_refl _) _
         have HVA : Hid (NewB w.heap.size (w1.alloc (.cells #[.int .u8 167] 5)) v1 bs) := own_here hv1 hbn
         have HCA : Hid ((w1.alloc (.cells #[.int .u8 167] 5)).cell? ⟨w1.heap.size, 0, none⟩ = some (encB 167)) := by rw [Hid, row_cell (heap_alloc_last w1 _)]; rfl
         have HBA : Hid (Below w.heap.size w (w1.alloc (.cells #[.int .u8 167] 5))) := HB1.out.trans (hbn.mono HB1.out.size)
         have HSA : Hid (w.heap.size ≤ (w1.alloc (.cells #[.int .u8 167] 5)).heap.size) := HBA.out.size
         clear hv1 hk1 hbn)
      | (go_at_call 20; refine (decode_any w2 n h16 h65 (some ⟨g2, 0, none⟩) c2 bs HBB.out (by omega) (by omega)).mono ?_; intro e w3 hp
         obtain ⟨rfl, hb3⟩ := hp.fails hd
         have HB23 : Hid (Below w2.heap.size w2 w3) := hb3
         have HB3 : Hid (Below w.heap.size w w3) := HB2.out.trans (hb3.mono HB2.out.size)
         clear hb3)
      | (go_at_call 21; refine (rdecode_any w3 n h16 h65 a c bs (BytesAt.here HBS.out HB3.out) hc (by omega)).mono ?_; intro e w4 hp
         obtain ⟨rfl, hb4⟩ := hp.fails hd
         have HB24 : Hid (Below w2.heap.size w2 w4) := HB23.out.trans (hb4.mono HB23.out.size)
         have HB4 : Hid (Below w.heap.size w w4) := HB3.out.trans (hb4.mono HB3.out.size)
         clear hb4))
    have hv24 : NewB w.heap.size w4 (.slice (some ⟨g2, 0, none⟩) (bs.length + 1) c2) (bs ++ [167]) := own_here HV2.out HB24.out
    have HV24 : Hid _ := hv24
    have hc167 := (newB_cell (i := bs.length) (y := 167) hv24 (by simp)).1
    have hcq1 : ∀ q, (convert 37 9 (.slice (some ⟨g2, 0, none⟩) bs.length c2)).run Tryd.prog (w4.drewN q) = .ok (.string (strB bs)) (w4.drewN q) := fun q => conv_any bs.length c2 (BytesAt.here (w' := w4.drewN q) HBB.out (HB24.out.trans ⟨rfl, rfl, rfl, Nat.le_refl _, fun _ _ => rfl⟩)) rfl
    have hcq2 : ∀ q, (convert 37 9 (.slice a bs.length c)).run Tryd.prog (w4.drewN q) = .ok (.string (strB bs)) (w4.drewN q) := fun q => conv_any bs.length c (BytesAt.here (w' := w4.drewN q) HBS.out (HB4.out.trans ⟨rfl, rfl, rfl, Nat.le_refl _, fun _ _ => rfl⟩)) rfl
    have heq : ((strB bs).toList == (strB bs).toList) = true := by simp
    have hc20 : ¬ c2 = 0 := by omega
    have HW4 : Hid (WAt base w4 p A B G C S) := H.out.below HB4.out
    obtain ⟨cu2, hcu2⟩ := newB_block hv24
    have HCU : Hid _ := hcu2
    have HLT : Hid (∀ j, A j < w.heap.size ∧ B j < w.heap.size ∧ G j < w.heap.size) := fun j => ⟨(H.out.sp j).lt, (H.out.rf j).lt, (H.out.rf j).ltg⟩
    clear hv24 hcu2
    go_quiet (simp only [hcq1, hcq2])
    go_wp2
    clear hcq1 hcq2
    obtain ⟨w5, hw5⟩ : ∃ w5, w5 = w4.drewN nq := ⟨_, rfl⟩
    rw [← hw5]
    have HB45 : Hid (Below w4.heap.size w4 w5) := by rw [hw5]; exact ⟨rfl, rfl, rfl, Nat.le_refl _, fun _ _ => rfl⟩
    have HV5 : Hid (NewB w.heap.size w5 (.slice (some ⟨g2, 0, none⟩) (bs.length + 1) c2) (bs ++ [167])) := own_here HV24.out HB45.out
    clear hw5 hc167
    go_loopw [14] (fun i wx => ∃ (m : Nat) (L : List UInt8), m ≤ bs.length + 1 ∧ i = .int .i64 m ∧ L.length = bs.length + 1 ∧ NewB w.heap.size wx (.slice (some ⟨g2, 0, none⟩) (bs.length + 1) c2) L ∧ Kept (fun i => i = g2) w5 wx) (fun i _ => bs.length + 1 - (intOf i).toNat)
    case atStart => exact ⟨0, bs ++ [167], by omega, rfl, by simp, HV5.out, Kept.refl _ _⟩
    case round =>
      obtain ⟨m, L, hm, rfl, hLl, hv, hkp⟩ := hrel
      by_cases hlt : m < bs.length + 1
      · have hltz : (m : Int) < ((bs.length + 1 : Nat) : Int) := by omega
        have hltz2 : (m : Int) < (bs.length : Int) + 1 := by omega
        obtain ⟨y, hy⟩ : ∃ y, L[m]? = some y := ⟨L[m]'(by omega), List.getElem?_eq_getElem (by omega)⟩
        obtain ⟨hcy, hfy⟩ := newB_cell hv hy
        have hx9 := xor9 y
        have HV : Hid (NewB w.heap.size (wr.setCell ⟨g2, m, none⟩ (.int .u8 ((y ^^^ 9).toNat : Int))) (.slice (some ⟨g2, 0, none⟩) (bs.length + 1) c2) (L.set m (y ^^^ 9))) := newB_set hv (y ^^^ 9)
        have HK : Hid (Kept (fun i => i = g2) w5 (wr.setCell ⟨g2, m, none⟩ (.int .u8 ((y ^^^ 9).toNat : Int)))) := hkp.trans (setCell_kept _) (fun _ _ x => x)
        have HLL : Hid (L.length = bs.length + 1) := hLl
        clear hv hkp hLl hy
        go_wp2
        exact ⟨⟨m + 1, L.set m (y ^^^ 9), by omega, by go_num, by rw [List.length_set]; exact HLL.out, HV.out, HK.out⟩, by simp [intOf]; omega⟩
      · have hltz : ¬ (m : Int) < ((bs.length + 1 : Nat) : Int) := by omega
        have hltz2 : ¬ (m : Int) < (bs.length : Int) + 1 := by omega
        have hcu5 := (HB45.out.block g2 (Array.getElem?_eq_some_iff.1 HCU.out).1).trans HCU.out
        have HW6 : Hid (WAt base wr p A B G C S) := (HW4.out.below HB45.out).keptB hcu5 hkp
        have HB6 : Hid (Below w.heap.size w wr) := Kept.below (HB4.out.trans (HB45.out.mono HB4.out.size)) hkp (HB4.out.trans (HB45.out.mono HB4.out.size)).size (fun i hi => by omega)
        clear hv hkp hcu5 hLl
        go_wp2
        go_ret
        exact ⟨rfl, ⟨A, B, G, C, S, HW6.out⟩, HB6.out.mono hb⟩
end Go.Proofs.YtlokplnapaghhaaDoor
