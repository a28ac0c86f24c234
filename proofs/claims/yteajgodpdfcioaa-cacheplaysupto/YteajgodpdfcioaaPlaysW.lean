/- CachePlays: the walk. -/
import Derived.Test.YteajgodpdfcioaaMine
import Derived.Test.YteajgodpdfcioaaStep
import Derived.Test.YteajgodpdfcioaaShown
import Derived.Test.YteajgodpdfcioaaArgs
namespace Go.Proofs.Yteajgodpdfcioaa
open Go.RowKit Go.Maps

set_option maxHeartbeats 1600000 in
set_option maxRecDepth 100000 in
theorem plays_any {w : World} {v : Value} {L : List Ov} (h : OpsIn w v L) (hl : L.length ≤ 1048576) :
    Calls Try.prog 4 #[v] w fun e w' => e = .returned (.bool true) ∧ Below w.heap.size w w' := by
  obtain ⟨⟨a, c, rfl, hc, ha, hcell⟩, _⟩ := h
  have HCE : Hid (∀ (i : Nat) (o : Ov), L[i]? = some o → ∃ g off, a = some ⟨g, off, none⟩ ∧ g < w.heap.size ∧ OvIn w g (off + i * 4) o) := hcell
  clear hc ha hcell
  go_enter Try.func4, Try.ntmps4
  go_wp2_with fail
  refine (shown_any w).mono ?_
  rintro r w1 ⟨rfl, hb1⟩
  have HB1 : Hid (Below w.heap.size w w1) := hb1
  clear hb1
  go_wp2_with fail
  obtain ⟨w2, hw2⟩ : ∃ w2, w2 = w1.alloc (.cells #[.slice none 0 0, .slice none 0 0, .slice none 0 0, .slice none 0 0, .slice none 0 0] 30) := ⟨_, rfl⟩
  have HA : Hid (Al w.heap.size (9 * 0) w2 w1.heap.size (2 * 0)) := by
    rw [hw2]
    exact al_new (heap_alloc_last w1 _) (by have := HB1.out.size; simp; omega) HB1.out.size
  have HBB : Hid (Below w.heap.size w w2) := by
    rw [hw2]
    exact HB1.out.trans ((below_new w1 _).mono HB1.out.size)
  rw [← hw2]
  generalize w1.heap.size = W at *
  clear hw2 HB1
  go_loopw [5] (fun s wr => ∃ i : Nat, i ≤ L.length ∧ s = .int .i64 i ∧ Al w.heap.size (9 * i) wr W (2 * i) ∧ Below w.heap.size w wr) (fun s _ => L.length - (intOf s).toNat)
  case atStart => exact ⟨0, by omega, rfl, HA.out, HBB.out⟩
  case round =>
    clear HA HBB
    obtain ⟨i, hi, rfl, hA, hB⟩ := hrel
    have HA : Hid (Al w.heap.size (9 * i) wr W (2 * i)) := hA
    have HB : Hid (Below w.heap.size w wr) := hB
    clear hA hB
    by_cases hlt : i < L.length
    · have hiz : (i : Int) < (L.length : Int) := by omega
      obtain ⟨o, ho⟩ : ∃ o, L[i]? = some o := ⟨_, List.getElem?_eq_getElem hlt⟩
      obtain ⟨g, off, rfl, hg, hov⟩ := HCE.out i o ho
      have k0 : wr.cell? ⟨g, off + i * 4, none⟩ = some (.int .i64 o.kind) := (Below.cell (p := ⟨g, off + i * 4, none⟩) HB.out hg).trans hov.c0
      have k1 : wr.cell? ⟨g, off + i * 4 + 1, none⟩ = some (.int .i64 o.on) := (Below.cell (p := ⟨g, off + i * 4 + 1, none⟩) HB.out hg).trans hov.c1
      have k2 : wr.cell? ⟨g, off + i * 4 + 2, none⟩ = some (.int .i64 o.n) := (Below.cell (p := ⟨g, off + i * 4 + 2, none⟩) HB.out hg).trans hov.c2
      have k3 : wr.cell? ⟨g, off + i * 4 + 3, none⟩ = some (.int .i64 o.x) := (Below.cell (p := ⟨g, off + i * 4 + 3, none⟩) HB.out hg).trans hov.c3
      have HS : Hid (Calls Try.prog 8 #[ptr W, .agg #[.int .i64 o.kind, .int .i64 o.on, .int .i64 o.n, .int .i64 o.x]] wr fun r w' => r = .returned (.bool true) ∧ Al w.heap.size (9 * i + 9) w' W (2 * i + 2) ∧ Below w.heap.size wr w') := step_any HA.out hov.w1 hov.w2 (by omega) (by omega)
      clear hov ho
      go_wp2_with fail
      refine Calls.mono HS.out ?_
      rintro r w3 ⟨rfl, h3, h4⟩
      have HA3 : Hid (Al w.heap.size (9 * i + 9) w3 W (2 * i + 2)) := h3
      have HB3 : Hid (Below w.heap.size w w3) := HB.out.trans h4
      clear h3 h4 k0 k1 k2 k3 HS
      go_wp2_with fail
      exact ⟨⟨i + 1, by omega, by go_num, HA3.out, HB3.out⟩, by simp [intOf]; omega⟩
    · have hiz : ¬ (i : Int) < (L.length : Int) := by omega
      have HI : Hid (i ≤ 1048576) := by show _ ≤ _; omega
      obtain ⟨n, cs, ls, rs, SC, SL, SR, vc, vl, vr, vo, vw, O, N, h1, hk, hp⟩ := HA.out
      obtain ⟨ac, cc, rfl⟩ := own_slice h1.ws.rc
      have HI1 : Hid (Inv w.heap.size (9 * i) n wr W cs ls rs SC SL SR (.slice ac n cc) vl vr vo vw O N ∧ O.length ≤ 2097152 ∧ ∀ p ∈ O ++ N, (∀ k, p.1.ownBlock = some k → w.heap.size ≤ k) ∧ p.2.length ≤ 65536) := ⟨h1, by have := HI.out; omega, hp⟩
      have c0 : wr.cell? ⟨W, 0, none⟩ = some (.slice ac n cc) := by rw [row_cell h1.ws.head]; rfl
      obtain ⟨w4, rfl⟩ : ∃ w4, w4 = wr := ⟨_, rfl⟩
      have hnn : n ≤ 30 := h1.ws.few
      clear h1 hk hp HA
      go_wp2_with fail
      clear c0 hiz hlt hi
      go_loopw [7] (fun s wr => ∃ (j : Nat) (vo vw : Value) (O N : List (Value × List Int)), j ≤ n ∧ s = .int .i64 j ∧ Inv w.heap.size (9 * i) n wr W cs ls rs SC SL SR (.slice ac n cc) vl vr vo vw O N ∧ O.length ≤ 2097152 + 2 * j ∧ (∀ p ∈ O ++ N, (∀ k, p.1.ownBlock = some k → w.heap.size ≤ k) ∧ p.2.length ≤ 65536) ∧ Below w.heap.size w wr) (fun s _ => n - (intOf s).toNat)
      case atStart => exact ⟨0, vo, vw, O, N, by omega, rfl, HI1.out.1, HI1.out.2.1, HI1.out.2.2, HB.out⟩
      case round =>
        clear HI1 HB
        obtain ⟨j, vo, vw, O, N, hj, rfl, hI, hO, hp, hB⟩ := hrel
        have c0 : wr.cell? ⟨W, 0, none⟩ = some (.slice ac n cc) := by rw [row_cell hI.ws.head]; rfl
        by_cases hlt : j < n
        · have hjz : (j : Int) < (n : Int) := by omega
          have HT : Hid _ := tells_al hI hlt (by omega)
          have HP : Hid (∀ p ∈ O ++ N, (∀ k, p.1.ownBlock = some k → w.heap.size ≤ k) ∧ p.2.length ≤ 65536) := hp
          have HB : Hid (Below w.heap.size w wr) := hB
          clear hI hp hB
          go_wp2_with fail
          refine Calls.mono HT.out ?_
          rintro r w5 ⟨rfl, h5⟩
          have H5 : Hid _ := h5
          clear h5 HT c0
          go_wp2_with fail
          obtain ⟨vo', vw', O', N', k1, k2, k3, k4⟩ := H5.out
          exact ⟨⟨j + 1, vo', vw', O', N', by omega, by go_num, k1, by omega, fun p hp => (k4 p hp).elim (HP.out p) id, HB.out.trans k2⟩, by simp [intOf]; omega⟩
        · have hjz : ¬ (j : Int) < (n : Int) := by omega
          have HM : Hid (Calls Try.prog 10 #[ptr W] wr fun e w' => e = .returned (.bool true) ∧ Below w.heap.size wr w') :=
            mine_any (B := w.heap.size) (O := O) (N := N) ⟨hI.ws.head, hI.ws.lw.1, own_base hI.bk.ro fun k hk => hI.ws.lw.2 k (.inr (.inr (.inr (.inl hk))))⟩ hI.bk.rw_
              (fun i v bs hv => own_base (hI.bk.outs (v, bs) (List.mem_of_getElem? hv)) (hp (v, bs) (List.mem_append.2 (.inl (List.mem_of_getElem? hv)))).1)
              (fun i v bs hv => hI.bk.copies (v, bs) (List.mem_of_getElem? hv)) hI.bk.same (alone_of hI.bk.apart) hI.ws.hB (by omega)
              (fun i v bs hv => (hp (v, bs) (List.mem_append.2 (.inl (List.mem_of_getElem? hv)))).2)
          have HB : Hid (Below w.heap.size w wr) := hB
          clear hI hp hB
          go_wp2_with fail
          refine Calls.mono HM.out ?_
          rintro r w5 ⟨rfl, h5⟩
          clear HM c0
          go_wp2_with fail
          go_ret
          exact ⟨rfl, HB.out.trans h5⟩
end Go.Proofs.Yteajgodpdfcioaa
