/- Where 'from' stands; Count, use, add, remove. -/
import Derived.Test.YteajgodpdfcioaaLHang
namespace Go.Proofs.Yteajgodpdfcioaa.Li
open Go.RowKit Go.Maps

theorem FromOk.mem {e f : Nat} {G : List Pl} (h : FromOk e f G) : f ∈ e :: G.map Pl.b := by
  obtain ⟨F, R, rfl, _, rfl⟩ := h
  have := fstB_mem e (R.map Pl.b)
  simp only [List.map_append, List.mem_cons, List.mem_append] at this ⊢
  rcases this with h | h
  · exact .inl h
  · exact .inr (.inr h)
theorem FromOk.out {e f : Nat} {A B : List Pl} {p : Pl} (h : FromOk e f (A ++ p :: B)) (hn : (e :: (A ++ p :: B).map Pl.b).Nodup) : FromOk e (if f = p.b then fstB e (B.map Pl.b) else f) (A ++ B) := by
  obtain ⟨F, R, hG, hF, hf⟩ := h
  have hn1 : (e :: A.map Pl.b ++ p.b :: B.map Pl.b).Nodup := by simpa using hn
  obtain ⟨_, d2, d3⟩ := List.nodup_append.1 hn1
  rcases List.append_eq_append_iff.1 hG with ⟨a', hF', hR⟩ | ⟨c', hA, hR⟩
  · cases a' with
    | nil =>
      simp at hF' hR
      subst hF' hR
      rw [if_pos (by rw [hf]; rfl)]
      exact ⟨F, B, rfl, hF, rfl⟩
    | cons q a'' =>
      simp at hR
      obtain ⟨rfl, rfl⟩ := hR
      have hne : f ≠ p.b := fun e1 => by
        have := fstB_mem e (R.map Pl.b)
        rw [← hf, e1] at this
        rcases List.mem_cons.1 this with h1 | h1
        · exact d3 e (by simp) p.b (by simp) h1.symm
        · exact (List.nodup_cons.1 d2).1 (by simp only [List.map_append]; exact List.mem_append_right _ h1)
      rw [if_neg hne]
      exact ⟨A ++ a'', R, by simp, fun q hq => hF q (by rw [hF']; simp at hq ⊢; rcases hq with hq | hq <;> simp [hq]), hf⟩
  · cases c' with
    | nil =>
      simp at hA hR
      subst hA hR
      rw [if_pos (by rw [hf]; rfl)]
      exact ⟨A, B, rfl, hF, rfl⟩
    | cons q c'' =>
      subst hA hR
      have hne : f ≠ p.b := fun e1 => by
        rw [hf] at e1
        exact d3 q.b (by simp) p.b (by simp) e1
      rw [if_neg hne]
      exact ⟨F, q :: c'' ++ B, by simp, hF, hf⟩
theorem FromOk.more {e f : Nat} {G : List Pl} {p : Pl} (h : FromOk e f G) (hn : (e :: G.map Pl.b).Nodup) : FromOk e (if f = e then p.b else f) (G ++ [p]) := by
  obtain ⟨F, R, rfl, hF, hf⟩ := h
  cases R with
  | nil =>
    rw [if_pos (show f = e from hf)]
    exact ⟨F, [p], by simp, hF, rfl⟩
  | cons q R =>
    have hne : f ≠ e := fun e1 => by
      have : q.b = e := hf.symm.trans e1
      rw [← this] at hn
      simp at hn
    rw [if_neg hne]
    exact ⟨F, q :: R ++ [p], by simp, hF, hf⟩
/-- Head, ring, and where 'from' stands. -/
def Core (w : World) (c : Nat) (h : Hd) (G : List Pl) : Prop := HdAt w c h ∧ (∃ nx pv, RingAt w h.e G nx pv) ∧ FromOk h.e h.f G
theorem CacheIs.core {U : Nat} {w : World} {c : Nat} {h : Hd} {D : DataW Value} {G : List Pl} {nx pv : Nat → Nat} (k : CacheIs U w c h D G nx pv) : Core w c h G := ⟨k.head, ⟨_, _, k.ring⟩, k.from_⟩
theorem Core.nodup {w : World} {c : Nat} {h : Hd} {G : List Pl} (k : Core w c h G) : (h.e :: G.map Pl.b).Nodup := by
  obtain ⟨_, ⟨_, _, hr⟩, _⟩ := k
  exact hr.ring.nodup
theorem Core.place {w : World} {c : Nat} {h : Hd} {G : List Pl} (k : Core w c h G) {p : Pl} (hp : p ∈ G) : ∃ a d, PlAt w p a d := by
  obtain ⟨_, ⟨_, _, hr⟩, _⟩ := k
  exact ⟨_, _, hr.mem p (List.mem_cons_of_mem _ hp)⟩
theorem Core.same {w w' : World} {c : Nat} {h : Hd} {G : List Pl} (k : Core w c h G) (hs : ∀ i, i = c ∨ i ∈ h.e :: G.map Pl.b → w'.heap[i]? = w.heap[i]?) : Core w' c h G := by
  obtain ⟨h1, ⟨nx, pv, hr⟩, h3⟩ := k
  exact ⟨(hs c (.inl rfl)).trans h1, ⟨nx, pv, hr.same fun i hi => hs i (.inr hi)⟩, h3⟩
theorem Core.lt {w : World} {c : Nat} {h : Hd} {G : List Pl} (k : Core w c h G) {i : Nat} (hi : i = c ∨ i ∈ h.e :: G.map Pl.b) : i < w.heap.size := by
  obtain ⟨h1, ⟨nx, pv, hr⟩, h3⟩ := k
  rcases hi with rfl | hi
  · exact (Array.getElem?_eq_some_iff.1 h1).1
  · obtain ⟨cur, h2⟩ := hr.blocks hi
    exact (Array.getElem?_eq_some_iff.1 h2).1
/-- The map's block is none of the ring. -/
theorem MapOf.apart {w : World} {c m : Nat} {h : Hd} {D : DataW Value} {G G' : List Pl} (hm : MapOf w m D G') (k : Core w c h G) : ¬ (m = c ∨ m ∈ h.e :: G.map Pl.b) := by
  obtain ⟨h1, ⟨nx, pv, hr⟩, h3⟩ := k
  obtain ⟨es, cl, hb, _⟩ := hm.own
  rintro (e | e)
  · rw [e] at hb
    rw [show w.heap[c]? = _ from h1] at hb
    cases hb
  · obtain ⟨cur, h2⟩ := hr.blocks e
    rw [h2] at hb
    cases hb
theorem look_in {w : World} {m : Nat} {D : DataW Value} {G : List Pl} (h : MapOf w m D G) {p : Pl} (hp : p ∈ G) (hn : (Lit.int .i64 p.n).wf = true) : (Instr.lookup 81 (.map (some m)) (.int .i64 p.n) false).run Try.prog w = .ok (ptr p.b) w := by
  obtain ⟨u, ps, hrun, hu⟩ := h.own.lookup law3 Try.underlying81 (Try.zeroValue80 w) (zd := .held (.pointer none)) (zp := []) rfl (key_of hn)
  rw [h.here p hp] at hu
  obtain ⟨_, _, e⟩ := hP_inv hu
  simp only [Prod.mk.injEq, DataW.held.injEq] at e
  rw [hrun, e.1]
theorem look_out {w : World} {m : Nat} {D : DataW Value} {G : List Pl} (h : MapOf w m D G) {n : Int} (hp : ∀ p ∈ G, p.n ≠ n) (hn : (Lit.int .i64 n).wf = true) : (Instr.lookup 81 (.map (some m)) (.int .i64 n) false).run Try.prog w = .ok (.pointer none) w := by
  obtain ⟨u, ps, hrun, hu⟩ := h.own.lookup law3 Try.underlying81 (Try.zeroValue80 w) (zd := .held (.pointer none)) (zp := []) rfl (key_of hn)
  rw [atKey_of_not_has (h.no n hp)] at hu
  obtain ⟨_, _, e⟩ := hP_inv hu
  simp only [Prod.mk.injEq, DataW.held.injEq] at e
  rw [hrun, ← e.1]
theorem count_walk {w : World} {c m : Nat} {D : DataW Value} {G : List Pl} (hm : MapOf w m D G) (c1 : w.cell? ⟨c, 1, none⟩ = some (.map (some m))) : Calls Try.prog 30 #[ptr c] w fun e w' => e = .returned (.int .i64 (G.length : Int)) ∧ w' = w := by
  have hown := hm.own
  have HS : Hid (Maps.size D = G.length) := hm.size
  clear hm
  go_enter Try.func30, Try.ntmps30
  go_wp2_with (at_len; refine wpList_len_own _ rfl _ 81 rfl 3 80 Try.underlying81 _ m G.length D rfl hown ?_)
  go_ret
  exact ⟨ret_int (by rw [HS.out]), rfl⟩
theorem use_any {w : World} {c : Nat} {h : Hd} {A B : List Pl} {p : Pl} (k : Core w c h (A ++ p :: B)) (hu : h.uses < 4611686018427387904) :
    Calls Try.prog 47 #[ptr c, ptr p.b] w fun r w' => r = .returned (.tuple #[]) ∧ (∃ f', Core w' c { h with uses := h.uses + 1, f := f' } (A ++ B ++ [{ p with used := h.uses + 1 }])) ∧ Kept (fun i => i = c ∨ i ∈ h.e :: (A ++ p :: B).map Pl.b) w w' := by
  obtain ⟨h1, ⟨nx, pv, hr⟩, h3⟩ := k
  have hnd : (h.e :: (A ++ p :: B).map Pl.b).Nodup := hr.ring.nodup
  have HU := unhang_any h1 hr h3.mem
  have hfo := h3.out hnd
  clear h1 hr h3
  go_enter Try.func47, Try.ntmps47
  go_wp2_with fail
  refine HU.mono ?_
  rintro r w1 ⟨rfl, hh1, ⟨nx1, pv1, hr1⟩, ⟨a, d, hp1⟩, k1⟩
  clear HU
  have hbn : p.b ∉ h.e :: (A ++ B).map Pl.b := by
    have h1 : (h.e :: A.map Pl.b ++ p.b :: B.map Pl.b).Nodup := by simpa using hnd
    obtain ⟨_, d2, d3⟩ := List.nodup_append.1 h1
    intro hm
    simp only [List.map_append, List.mem_cons, List.mem_append] at hm
    rcases hm with hm | hm | hm
    · exact d3 h.e (by simp) p.b (by simp) hm.symm
    · exact d3 p.b (List.mem_cons_of_mem _ hm) p.b (by simp) rfl
    · exact (List.nodup_cons.1 d2).1 hm
  have hnd1 : (h.e :: (A ++ B).map Pl.b).Nodup := hr1.ring.nodup
  have HH := hang_any (n := p.n) (x := p.x) (pins := p.pins) hh1 hr1 hfo.mem hp1 hbn hu
  go_wp2_with fail
  refine HH.mono ?_
  rintro r w2 ⟨rfl, hh2, hr2, k2⟩
  clear HH
  go_wp2_with fail
  go_end0
  refine ⟨rfl, ⟨_, hh2, hr2, hfo.more hnd1⟩, ?_⟩
  refine (k1.mono ?_).trans k2 ?_
  · rintro i _ (e | e)
    · exact .inl e
    · refine .inr ?_
      simp only [List.map_append, List.map_cons, List.mem_cons, List.mem_append] at e ⊢
      grind
  · rintro i _ (e | e | e)
    · exact .inl e
    · exact .inr (by simp [e])
    · refine .inr ?_
      simp only [List.map_append, List.map_cons, List.mem_cons, List.mem_append] at e ⊢
      grind

theorem turned_far {w w' : World} {b k : Nat} (h : w.mapTurned w' b) (hl : k < w.heap.size) (hk : k ≠ b) : w'.heap[k]? = w.heap[k]? := h.grown.block k hl (fun e => hk (by cases e; rfl))
theorem turned_kept {w w' : World} {b : Nat} (h : w.mapTurned w' b) : Kept (fun k => k = b) w w' := Kept.of_grown h.grown (fun _ e => by cases e; rfl)
set_option maxRecDepth 100000 in
theorem remove_any {w : World} {c : Nat} {h : Hd} {D : DataW Value} {A B : List Pl} {p : Pl} (k : Core w c h (A ++ p :: B)) (hm : MapOf w h.m D (A ++ p :: B)) (hnum : ((A ++ p :: B).map Pl.n).Nodup) (hn : (Lit.int .i64 p.n).wf = true) :
    Calls Try.prog 54 #[ptr c, ptr p.b] w fun r w' => r = .returned (.tuple #[]) ∧ (∃ f', Core w' c { h with f := f' } (A ++ B)) ∧ (∃ D', MapOf w' h.m D' (A ++ B)) ∧ (∃ a d, PlAt w' p a d) ∧ Kept (fun i => i = h.m ∨ i = c ∨ i ∈ h.e :: (A ++ p :: B).map Pl.b) w w' := by
  have hap := hm.apart k
  obtain ⟨a0, d0, hp0⟩ := k.place (p := p) (by simp)
  have c1 : w.cell? ⟨c, 1, none⟩ = some (.map (some h.m)) := by rw [row_cell k.1]; rfl
  have b0 : w.cell? ⟨p.b, 0, none⟩ = some (.int .i64 p.n) := by rw [row_cell hp0]; rfl
  obtain ⟨w1, hrun, ho1, ht1⟩ := (show w.drew.ownsMap Try.prog 3 hP h.m _ D from hm.own).drop law3 Try.underlying81 (key_of hn) 0
  have hne : ∀ q ∈ A ++ B, q.n ≠ p.n := by
    have h1 : (A.map Pl.n ++ p.n :: B.map Pl.n).Nodup := by simpa using hnum
    obtain ⟨_, d2, d3⟩ := List.nodup_append.1 h1
    intro q hq e
    rcases List.mem_append.1 hq with hq | hq
    · exact d3 q.n (List.mem_map_of_mem hq) p.n (by simp) e
    · exact (List.nodup_cons.1 d2).1 (e ▸ List.mem_map_of_mem hq)
  have hfar : ∀ i, i < w.heap.size → i ≠ h.m → w1.heap[i]? = w.heap[i]? := fun i hl hi => turned_far (w := w.drew) ht1 hl hi
  have k1 : Core w1 c h (A ++ p :: B) := k.same fun i hi => hfar i (k.lt hi) (fun e => hap (e ▸ hi))
  have m1 : MapOf w1 h.m (D.del (key p.n)) (A ++ B) := hm.del hne ho1
  have kk1 : Kept (fun i => i = h.m) w w1 := ⟨(turned_kept ht1).os, (turned_kept ht1).tape, (turned_kept ht1).output, (turned_kept ht1).size, fun i hi e => (turned_kept ht1).block i hi e⟩
  have hfo := k1.2.2.out k1.nodup
  have HU : Hid (Calls Try.prog 55 #[ptr c, ptr p.b] w1 _) := (by
    obtain ⟨nx, pv, hr⟩ := k1.2.1
    exact unhang_any k1.1 hr k1.2.2.mem)
  have HM : Hid (MapOf w1 h.m (D.del (key p.n)) (A ++ B)) := m1
  have HK : Hid (Kept (fun i => i = h.m) w w1) := kk1
  have HA : Hid (¬ (h.m = c ∨ h.m ∈ h.e :: (A ++ p :: B).map Pl.b)) := hap
  clear hm hne hap m1 kk1 k k1 ho1 ht1 hfar
  go_enter Try.func54, Try.ntmps54
  go_wp2_with fail
  go_region
  go_wp2_with fail
  refine Calls.mono HU.out ?_
  rintro r w2 ⟨rfl, hh2, hr2, hp2, k2⟩
  clear HU
  go_wp2_with fail
  go_end0
  refine ⟨rfl, ⟨_, hh2, hr2, hfo⟩, ⟨_, HM.out.same (k2.block h.m HM.out.own.lt ?_)⟩, hp2, ?_⟩
  · intro e
    apply HA.out
    rcases e with e | e
    · exact .inl e
    · refine .inr ?_
      simp only [List.map_append, List.map_cons, List.mem_cons, List.mem_append] at e ⊢
      grind
  · refine (HK.out.mono (fun i _ e => .inl e)).trans k2 ?_
    rintro i _ (e | e)
    · exact .inr (.inl e)
    · refine .inr (.inr ?_)
      simp only [List.map_append, List.map_cons, List.mem_cons, List.mem_append] at e ⊢
      grind
set_option maxRecDepth 100000 in
theorem add_any {w : World} {c : Nat} {h : Hd} {D : DataW Value} {G : List Pl} {n : Int} {x : Value} (k : Core w c h G) (hm : MapOf w h.m D G) (hne : ∀ q ∈ G, q.n ≠ n) (hn : (Lit.int .i64 n).wf = true) (hx : IsT x) (hu : h.uses < 4611686018427387904) (hl : G.length < 100000) :
    Calls Try.prog 52 #[ptr c, .int .i64 n, x] w fun r w' => r = .returned (.tuple #[]) ∧ (∃ f', Core w' c { h with uses := h.uses + 1, f := f' } (G ++ [⟨w.heap.size, n, x, 0, h.uses + 1⟩])) ∧ (∃ D', MapOf w' h.m D' (G ++ [⟨w.heap.size, n, x, 0, h.uses + 1⟩])) ∧ Kept (fun i => i = h.m ∨ i = c ∨ i ∈ h.e :: G.map Pl.b) w w' := by
  obtain ⟨wa, hwa⟩ : ∃ wa, wa = w.alloc (.cells #[.int .i64 n, x, .int .i64 0, .int .u64 0, .pointer none, .pointer none] 86) := ⟨_, rfl⟩
  have hba : Below w.heap.size w wa := by rw [hwa]; exact below_new w _
  have hla : wa.heap[w.heap.size]? = some (.cells #[.int .i64 n, x, .int .i64 0, .int .u64 0, .pointer none, .pointer none] 86 (0, 0)) := by rw [hwa]; exact heap_alloc_last w _
  have hml := hm.own.lt
  have ka : Core wa c h G := k.same fun i hi => hba.block i (k.lt hi)
  have ma : MapOf wa h.m D G := hm.same (hba.block _ hml)
  have hap := ma.apart ka
  have c1 : wa.cell? ⟨c, 1, none⟩ = some (.map (some h.m)) := by rw [row_cell ka.1]; rfl
  have hown := ma.own
  have hlt : w.heap.size < wa.heap.size := (Array.getElem?_eq_some_iff.1 hla).1
  have HC : Hid (∀ i, i = c ∨ i ∈ h.e :: G.map Pl.b → i < w.heap.size) := fun i hi => k.lt hi
  have HKA : Hid (Core wa c h G) := ka
  have HMA : Hid (MapOf wa h.m D G) := ma
  have HBA : Hid (Below w.heap.size w wa) := hba
  have HLA : Hid _ := hla
  have HAP : Hid (¬ (h.m = c ∨ h.m ∈ h.e :: G.map Pl.b)) := hap
  have HNE : Hid (∀ q ∈ G, q.n ≠ n) := hne
  have HPUT : Hid (∀ w1, w1.ownsMap Try.prog 3 hP h.m (G.length + 1) (D.put (key n) (.held (ptr w.heap.size))) → MapOf w1 h.m (D.put (key n) (.held (ptr w.heap.size))) (G ++ [⟨w.heap.size, n, x, 0, h.uses + 1⟩])) := fun w1 ho => ma.put (p := ⟨w.heap.size, n, x, 0, h.uses + 1⟩) hne ho
  clear k hm ka ma hba hla hap hne
  obtain ⟨sa, sn, sc, rfl⟩ := hx
  go_enter Try.func52, Try.ntmps52
  go_upto_region 1 with fail
  rw [← hwa]
  clear hwa
  go_wp2_with (at_mapUpdate
               refine wpList_mapUpdate_in _ rfl _ _ _ 81 rfl 3 80 law3 Try.underlying81 hP h.m G.length D rfl hown (by unfold maxLen; omega) _ _ _ rfl rfl (key_of hn) (.held (ptr w.heap.size)) [] rfl ?_
               intro w1 ho1 ht1
               have HO1 : Hid (w1.ownsMap Try.prog 3 hP h.m (G.length + 1) (D.put (key n) (.held (ptr w.heap.size)))) := ho1
               have HT1 : Hid (wa.mapTurned w1 h.m) := ht1
               clear ho1 ht1)
  have HF : Hid (∀ i, i < wa.heap.size → i ≠ h.m → w1.heap[i]? = wa.heap[i]?) := fun i hl hi => turned_far HT1.out hl hi
  have k1 : Core w1 c h G := HKA.out.same fun i hi => HF.out i (HKA.out.lt hi) (fun e => HAP.out (e ▸ hi))
  have hp1 := (HF.out w.heap.size hlt (by omega)).trans HLA.out
  have hbn : w.heap.size ∉ h.e :: G.map Pl.b := fun e => by have := HC.out _ (.inr e); omega
  have HM1 := HPUT.out w1 HO1.out
  have HH : Hid (Calls Try.prog 56 #[ptr c, ptr w.heap.size] w1 _) := (by
    obtain ⟨nx, pv, hr⟩ := k1.2.1
    exact hang_any (pins := 0) k1.1 hr k1.2.2.mem hp1 hbn hu)
  have HFR : Hid (FromOk h.e h.f G) := k1.2.2
  have HND : Hid (h.e :: G.map Pl.b).Nodup := k1.nodup
  clear k1 hp1 hbn
  refine Calls.mono HH.out ?_
  rintro r w2 ⟨rfl, hh2, hr2, k2⟩
  clear HH
  have HH2 : Hid _ := hh2
  have HR2 : Hid _ := hr2
  have HK2 : Hid _ := k2
  clear hh2 hr2 k2
  go_wp2_with fail
  go_end0
  refine ⟨rfl, ⟨_, HH2.out, HR2.out, FromOk.more HFR.out HND.out⟩, ⟨_, HM1.same (HK2.out.block h.m HM1.own.lt ?_)⟩, ?_⟩
  · rintro (e | e | e)
    · exact HAP.out (.inl e)
    · omega
    · exact HAP.out (.inr e)
  · refine ((Kept.of_below HBA.out).trans (turned_kept HT1.out) (fun i _ e => .inl e)).trans HK2.out ?_
    rintro i hi (e | e | e)
    · exact .inr (.inl e)
    · omega
    · exact .inr (.inr e)
end Go.Proofs.Yteajgodpdfcioaa.Li
