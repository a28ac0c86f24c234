/- 'played' with a script: the device that all its steps make. -/
import Derived.Test.YtphnajphgiinfaaStep
namespace Go.Proofs.Ytphnajphgiinfaa
open Go.RowKit Go.Maps Go.MuLone Go.Sort

/-- A step of a script that came in. -/
def OpAt (N : Nat) (w : World) (a : Option Addr) (i : Nat) (o : OpA) : Prop :=
  (Lit.int .i64 o.A).wf = true ∧ ∃ g off on aT capT aF capF, a = some ⟨g, off, none⟩ ∧ g < N ∧
    w.cell? ⟨g, off + i * 8, none⟩ = some (.int .i64 o.kind) ∧ w.cell? ⟨g, off + i * 8 + 1, none⟩ = some (.int .i64 on) ∧ w.cell? ⟨g, off + i * 8 + 2, none⟩ = some (.int .i64 o.A) ∧ w.cell? ⟨g, off + i * 8 + 3, none⟩ = some (.int .i64 o.B) ∧
    w.cell? ⟨g, off + i * 8 + 4, none⟩ = some (.int .u8 (o.v.toNat : Int)) ∧ w.cell? ⟨g, off + i * 8 + 5, none⟩ = some (.slice aT o.T.length capT) ∧ w.cell? ⟨g, off + i * 8 + 6, none⟩ = some (.slice aF o.fates.length capF) ∧ w.cell? ⟨g, off + i * 8 + 7, none⟩ = some (.bool o.dn) ∧
    BytesIn N w aT o.T ∧ FatesIn N w aF o.fates
def OpsAt (N : Nat) (w : World) (a : Option Addr) (l : List OpA) : Prop := ∀ (i : Nat) o, l[i]? = some o → OpAt N w a i o

theorem bytesIn_below {N : Nat} {w w' : World} {a : Option Addr} {T : List UInt8} (h : BytesIn N w a T) (hb : Below N w w') : BytesIn N w' a T := fun j c hj => by
  obtain ⟨g, off, e1, e2, e3⟩ := h j c hj
  exact ⟨g, off, e1, e2, by rw [hb.cell e2]; exact e3⟩
theorem fatesIn_below {N : Nat} {w w' : World} {a : Option Addr} {T : List Int} (h : FatesIn N w a T) (hb : Below N w w') : FatesIn N w' a T := fun j c hj => by
  obtain ⟨g, off, e1, e2, e3⟩ := h j c hj
  exact ⟨g, off, e1, e2, by rw [hb.cell e2]; exact e3⟩
theorem OpAt.below {N : Nat} {w w' : World} {a : Option Addr} {i : Nat} {o : OpA} (h : OpAt N w a i o) (hb : Below N w w') : OpAt N w' a i o := by
  obtain ⟨h0, g, off, on, aT, capT, aF, capF, e1, e2, c0, c1, c2, c3, c4, c5, c6, c7, hT, hF⟩ := h
  exact ⟨h0, g, off, on, aT, capT, aF, capF, e1, e2, by rw [hb.cell e2]; exact c0, by rw [hb.cell e2]; exact c1, by rw [hb.cell e2]; exact c2, by rw [hb.cell e2]; exact c3, by rw [hb.cell e2]; exact c4, by rw [hb.cell e2]; exact c5, by rw [hb.cell e2]; exact c6, by rw [hb.cell e2]; exact c7, bytesIn_below hT hb, fatesIn_below hF hb⟩
theorem OpsAt.below {N : Nat} {w w' : World} {a : Option Addr} {l : List OpA} (h : OpsAt N w a l) (hb : Below N w w') : OpsAt N w' a l := fun i o ho => (h i o ho).below hb

/-- All steps of a script. -/
noncomputable def Ab.run (a : Ab) (l : List OpA) : Ab := l.foldl (fun a o => (a.step o).1) a
theorem run_take (a : Ab) (l : List OpA) (k : Nat) (o : OpA) (h : l[k]? = some o) : a.run (l.take (k + 1)) = ((a.run (l.take k)).step o).1 := by
  unfold Ab.run
  rw [List.take_add_one, h]
  simp
def Ab.new (size blocks : Nat) : Ab := ⟨size, blocks, false, 0, 0, false, fun _ => none, fun _ => []⟩
theorem good_new (size blocks : Nat) : (Ab.new size blocks).good 0 := ⟨fun _ h => absurd rfl h, fun _ h => absurd rfl h, fun _ => Nat.le_refl _⟩

/-- A device of the law's own: what it is, and that all its memory is new. -/
structure Mine (N : Nat) (w : World) (b : Nat) (s : St) (a : Ab) (k : Nat) : Prop where
  dev : DevIs 0 65536 w b s
  ab : s.ab = a
  good : a.good k
  own : ∀ i, Own b s i → N ≤ i
theorem mine_step {N k : Nat} {w w' : World} {b : Nat} {s : St} {a : Ab} {o : OpA} {e : Ending} (h : Mine N w b s a k) (hN : N ≤ w.heap.size) (hd : DidTo b s (s.ab.step o) w e w') :
    ∃ t, Mine N w' b t (a.step o).1 (k + 1) ∧ e = .returned (.int .i64 (a.step o).2) ∧ Kept (Own b s) w w' ∧ ∀ i, Own b t i → Own b s i ∨ w.heap.size ≤ i := by
  obtain ⟨t, c, h1, h2, h3, h4, h5, h6⟩ := hd
  rw [h.ab] at h2 h4
  have hg : t.ab.good (k + 1) := by rw [h2]; exact good_step h.good o
  exact ⟨t, ⟨h1.tight hg, h2, good_step h.good o, fun i hi => (h6 i hi).elim (h.own i) (fun x => Nat.le_trans hN x)⟩, h4, h5, h6⟩

set_option maxHeartbeats 1000000 in
set_option maxRecDepth 100000 in
theorem played_any (size blocks : Nat) (w : World) (h : size = 512 ∨ size = 1024 ∨ size = 2048 ∨ size = 4096) (hb : 16 ≤ blocks ∧ blocks ≤ 65536) (N : Nat) (hN : N ≤ w.heap.size) (a : Option Addr) (cap : Nat) (l : List OpA) (hl : OpsAt N w a l) (hlen : l.length ≤ 4194303) :
    Calls Try.prog 9 #[.int .i64 size, .int .i64 blocks, .slice a l.length cap] w fun e w' => ∃ b t, e = .returned (.pointer (some ⟨b, 0, none⟩)) ∧ Mine w.heap.size w' b t ((Ab.new size blocks).run l) l.length ∧ Below w.heap.size w w' := by
  have HL : Hid (OpsAt N w a l) := hl
  have HN : Hid (N ≤ w.heap.size) := hN
  clear hl hN
  go_enter Try.func9, Try.ntmps9
  go_wp2_with fail
  refine (new_ok size blocks w h hb).mono ?_
  rintro _ w1 ⟨rfl, hd1, hb1⟩
  have HM1 : Hid (Mine w.heap.size w1 (w.heap.size + 2) (St.new size blocks w.heap.size) (Ab.new size blocks) 0) := by
    refine ⟨hd1.tight (good_new size blocks), rfl, good_new size blocks, fun i hi => ?_⟩
    rcases hi with e | e | e | ⟨n, v, hv, _⟩
    · omega
    · rw [show i = w.heap.size from e]; exact Nat.le_refl _
    · rw [show i = w.heap.size + 1 from e]; omega
    · have := valAt_has hv; simp [St.new, Maps.has] at this
  have HB1 : Hid (Below w.heap.size w w1) := hb1
  obtain ⟨b, hbb⟩ : ∃ b, b = w.heap.size + 2 := ⟨_, rfl⟩
  rw [← hbb] at HM1 ⊢
  clear hd1 hb1 h hb hbb
  go_wp2
  go_loopw [9] (fun i wr => ∃ (k : Nat) (t : St), k ≤ l.length ∧ i = .int .i64 k ∧ Mine w.heap.size wr b t ((Ab.new size blocks).run (l.take k)) k ∧ Below w.heap.size w wr) (fun i _ => l.length - (intOf i).toNat)
  case atStart => exact ⟨0, _, Nat.zero_le _, rfl, HM1.out, HB1.out⟩
  case round =>
    obtain ⟨k, t, hk, rfl, hm, hbe⟩ := hrel
    have HM : Hid (Mine w.heap.size wr b t ((Ab.new size blocks).run (l.take k)) k) := hm
    have HBE : Hid (Below w.heap.size w wr) := hbe
    clear hm hbe
    by_cases hlt : k < l.length
    · have hkz : (k : Int) < (l.length : Int) := by omega
      obtain ⟨o, ho⟩ : ∃ o, l[k]? = some o := ⟨l[k], List.getElem?_eq_getElem hlt⟩
      obtain ⟨hA, g, off, on, aT, capT, aF, capF, rfl, hg, c0, c1, c2, c3, c4, c5, c6, c7, hT, hF⟩ := (HL.out k o ho).below (HBE.out.mono HN.out)
      have HO : Hid _ := ho
      have HT : Hid (BytesIn N wr aT o.T) := hT
      have HF : Hid (FatesIn N wr aF o.fates) := hF
      have HA : Hid ((Lit.int .i64 o.A).wf = true) := hA
      clear ho hT hF hA
      go_wp2_with fail
      refine (did_any wr b t k HM.out.dev (by rw [HM.out.ab]; exact HM.out.good) (by omega) N (Nat.le_trans HN.out HBE.out.size) (fun i hi => Nat.le_trans HN.out (HM.out.own i hi)) o on aT aF capT capF HA.out HT.out HF.out).mono ?_
      intro e w2 hd
      obtain ⟨t2, hm2, rfl, hk2, _⟩ := mine_step HM.out HBE.out.size hd
      have HM2 : Hid (Mine w.heap.size w2 b t2 ((Ab.new size blocks).run (l.take (k + 1))) (k + 1)) := by rw [run_take _ _ _ _ HO.out]; exact hm2
      have HBE2 : Hid (Below w.heap.size w w2) := HBE.out.trans (hk2.below HM.out.own HBE.out.size)
      clear hd hm2 hk2
      go_wp2
      exact ⟨⟨k + 1, t2, by omega, by go_num, HM2.out, HBE2.out⟩, by simp [intOf]; omega⟩
    · obtain rfl : k = l.length := by omega
      go_wp2
      go_ret
      refine ⟨b, t, rfl, ?_, HBE.out⟩
      have := HM.out
      rw [List.take_length] at this
      exact this
end Go.Proofs.Ytphnajphgiinfaa
