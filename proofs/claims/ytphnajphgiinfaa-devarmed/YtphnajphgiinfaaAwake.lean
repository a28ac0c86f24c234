/- The chapter's first example, played: the law's own function 'awake' answers true and leaves all memory that was there. -/
import Derived.Test.YtphnajphgiinfaaRun
import Derived.Laws.BytesArg
import Derived.Deep.RegionWith
namespace Go.Proofs.Ytphnajphgiinfaa
open Go.RowKit Go.Maps Go.MuLone Go.Sort

/-- Bytes as a string. -/
def strB (bs : List UInt8) : ByteArray := strOfNums (bs.map fun c => (c.toNat : Int))

theorem conv_bytes {w : World} {n : Nat} {v : Value} {bs : List UInt8} (h : bytesAt w n v bs) (hn : 1 ≤ n) : (convert 29 9 v).run Try.prog w = .ok (.string (strB bs)) w := by
  obtain ⟨g, cap, rfl, _, _, hc⟩ := bytesAt_form h hn
  have hl : bs.length = n := by have := h.1; simpa using this
  refine run_convert_bytes_arg w 29 5 Try.underlying29 Try.underlying5 g 0 n cap (bs.map fun c => (c.toNat : Int)) (by simpa using hl) (fun i hi => ?_) 9 Try.underlying9
  have hib : i < bs.length := by omega
  rw [hc i (encB bs[i]) (by simp [List.getElem?_eq_getElem hib])]
  simp [encB, List.getD, List.getElem?_eq_getElem hib]

theorem repl_bytes (n : Nat) (c : UInt8) : List.replicate n (Value.int .u8 (c.toNat : Int)) = (List.replicate n c).map encB := by
  rw [List.map_replicate]; rfl

def fillB (c : UInt8) : List UInt8 := List.replicate 512 c

/-- 'filled', in bytes. -/
theorem filled_bytes (c : UInt8) (w : World) :
    Calls Try.prog 12 #[.int .i64 512, .int .u8 (c.toNat : Int)] w fun e w' => ∃ v, e = .returned v ∧ v = .slice (some ⟨w.heap.size, 0, none⟩) 512 512 ∧ w'.ownsRow w.heap.size 5 1 v 512 ((fillB c).map encB) ∧ Below w.heap.size w w' := by
  refine (filled_any 512 (c.toNat : Int) w (by decide)).mono ?_
  rintro e w' ⟨rfl, hrow, hg⟩
  rw [repl_bytes] at hrow
  exact ⟨_, rfl, rfl, hrow, below_grown hg (Nat.le_refl _)⟩

theorem wf3 : (Lit.int .i64 3).wf = true := by decide


/-- What the device is, told by what it shows at 3. -/
structure At3 (s : St) (l : Option (Option (List UInt8))) (ws : List (List UInt8)) : Prop where
  calm : Calm s
  size : s.size = 512
  blocks : s.blocks = 16
  last : s.lasts 3 = l
  waits : s.waits = fun m => if m = 3 then ws else []

theorem At3.range {s : St} {l : Option (Option (List UInt8))} {ws : List (List UInt8)} (a : At3 s l ws) : inRange 3 s.blocks = true := by rw [a.blocks]; decide

theorem at3_write (c : Nat) (w0 w : World) (b : Nat) (s : St) (h : Run c b w0 w s) (hc : c ≤ 1000) (l : Option (Option (List UInt8))) (ws : List (List UInt8)) (a : At3 s l ws) (hws : ws.length ≤ 1000) (bv : Value) (bs : List UInt8) (hb : bytesAt w 512 bv bs) :
    Calls Try.prog 11 #[.pointer (some ⟨b, 0, none⟩), .int .i64 3, bv] w fun e w' => e = .returned (.int .i64 0) ∧ ∃ s', Run (c + 1) b w0 w' s' ∧ At3 s' l (ws ++ [bs]) := by
  refine (run_write c w0 w b s h a.calm (by omega) 3 wf3 (by rw [a.waits]; simp; omega) a.range bv bs (by rw [a.size]; exact hb)).mono ?_
  rintro e w' ⟨rfl, s', hr, hcalm, h1, h2, h3, h4, _⟩
  refine ⟨rfl, s', hr, hcalm, by rw [h1, a.size], by rw [h2, a.blocks], by rw [h3, a.last], ?_⟩
  rw [h4, a.waits]
  funext m
  by_cases e : m = 3 <;> simp [e]

theorem at3_barrier (c : Nat) (w0 w : World) (b : Nat) (s : St) (h : Run c b w0 w s) (hc : c ≤ 1000) (l : Option (Option (List UInt8))) (ws : List (List UInt8)) (bs : List UInt8) (a : At3 s l (ws ++ [bs])) :
    Calls Try.prog 13 #[.pointer (some ⟨b, 0, none⟩)] w fun e w' => e = .returned (.int .i64 0) ∧ ∃ s', Run (2 * c) b w0 w' s' ∧ At3 s' (some (some bs)) [] := by
  refine (run_barrier c w0 w b s h a.calm (by omega)).mono ?_
  rintro e w' ⟨rfl, s', hr, hcalm, h1, h2, h3, h4, _⟩
  refine ⟨rfl, s', hr, hcalm, by rw [h1, a.size], by rw [h2, a.blocks], ?_, ?_⟩
  · rw [h3]
    simp [settledTo, a.waits]
  · rw [h4]; funext m; simp

theorem at3_read (c : Nat) (w0 w : World) (b : Nat) (s : St) (h : Run c b w0 w s) (l : Option (Option (List UInt8))) (ws : List (List UInt8)) (a : At3 s l ws) (bs : List UInt8) (hsh : shows s 3 = some bs) :
    Calls Try.prog 26 #[.pointer (some ⟨b, 0, none⟩), .int .i64 3] w fun e w' => ∃ v, e = .returned (.tuple #[v, .int .i64 0]) ∧ w'.ownsRow w.heap.size 5 1 v 512 (bs.map encB) ∧ (∃ s', Run c b w0 w' s' ∧ At3 s' l ws ∧ ∀ i, Own b s' i → Own b s i) ∧ Kept (fun k => k = b) w w' := by
  refine (run_read c w0 w b s h a.calm 3 wf3 a.range bs hsh).mono ?_
  rintro e w' ⟨v, rfl, hrow, s', hr, hcalm, h1, h2, h3, h4, h5, k, _⟩
  rw [a.size] at hrow
  exact ⟨v, rfl, hrow, ⟨s', hr, ⟨hcalm, by rw [h1, a.size], by rw [h2, a.blocks], by rw [h3, a.last], by rw [h4, a.waits]⟩, h5⟩, k⟩

theorem at3_pending (c : Nat) (w0 w : World) (b : Nat) (s : St) (h : Run c b w0 w s) (hc : c ≤ 1000) (l : Option (Option (List UInt8))) (ws : List (List UInt8)) (hws : ws ≠ []) (a : At3 s l ws) :
    Calls Try.prog 14 #[.pointer (some ⟨b, 0, none⟩)] w fun e w' => ∃ g cap, e = .returned (.slice (some ⟨g, 0, none⟩) 1 cap) ∧ w.heap.size ≤ g ∧ w'.cell? ⟨g, 0, none⟩ = some (.int .i64 3) ∧ w'.cell? ⟨g, 1, none⟩ = some (.int .i64 ws.length) ∧ Run c b w0 w' s := by
  have hk := keys_one h.dev 3 ws hws a.waits
  refine (run_pending c w0 w b s h (by omega)).mono ?_
  rintro e w' ⟨v, rfl, hrow, hr, _⟩
  rw [hk] at hrow
  have hcells : pendCells s [3] = [.int .i64 3, .int .i64 ws.length] := by simp [pendCells, a.waits]
  rw [hcells] at hrow
  rcases hrow.2 with ⟨_, h0⟩ | ⟨g, cap, cur, hv, hb, hg, hnc, hcm, hcs, ht⟩
  · simp at h0
  · refine ⟨g, cap, by rw [hv]; rfl, hb, ?_, ?_, hr⟩
    · have ht' : cur.toList.take 2 = [.int .i64 3, .int .i64 ws.length] := ht
      have : (cur.toList.take 2)[0]? = some (.int .i64 3) := by rw [ht']; rfl
      rw [List.getElem?_take] at this
      simpa [World.cell?, hg] using this
    · have ht' : cur.toList.take 2 = [.int .i64 3, .int .i64 ws.length] := ht
      have : (cur.toList.take 2)[1]? = some (.int .i64 ws.length) := by rw [ht']; rfl
      rw [List.getElem?_take] at this
      simpa [World.cell?, hg] using this

theorem at3_restart (c : Nat) (w0 w : World) (b : Nat) (s : St) (h : Run c b w0 w s) (hc : c ≤ 1000) (l : Option (Option (List UInt8))) (x : List UInt8) (ws : List (List UInt8)) (hws : ws.length ≤ 1000) (a : At3 s l (x :: ws)) (g : Nat) (hg : g < w.heap.size) (hgo : ¬ Own b s g) (hcell : w.cell? ⟨g, 0, none⟩ = some (.int .i64 1)) :
    Calls Try.prog 15 #[.pointer (some ⟨b, 0, none⟩), .slice (some ⟨g, 0, none⟩) 1 1] w fun e w' => e = .returned (.tuple #[]) ∧ (∃ s', Run (2 * c) b w0 w' s' ∧ At3 s' (some (some x)) []) ∧ Kept (Own b s) w w' := by
  have hk := keys_one h.dev 3 (x :: ws) (by simp) a.waits
  refine (run_restart c w0 w b s h (by omega) (some ⟨g, 0, none⟩) [1] 1 ?_ ?_).mono ?_
  · intro i f hi
    match i, hi with
    | 0, hi => simp at hi; subst hi; exact ⟨g, 0, rfl, hg, hgo, hcell⟩
  · intro n
    rw [a.waits]
    by_cases e : n = 3 <;> simp [e]
    omega
  · rintro e w' ⟨rfl, s', hr, hcalm, h1, h2, h3, h4, k, _⟩
    refine ⟨rfl, ⟨s', hr, hcalm, by rw [h1, a.size], by rw [h2, a.blocks], ?_, ?_⟩, k.mono (fun i _ e => e.elim (fun e => .inl e) (fun e => .inr (.inl e)))⟩
    · rw [h3, hk]
      simp [metTo, a.waits, fateOf]
    · rw [h4]; funext m; simp

set_option maxHeartbeats 2000000 in
set_option maxRecDepth 100000 in
theorem awake_any (w : World) : Calls Try.prog 7 #[] w fun e w' => e = .returned (.bool true) ∧ Below w.heap.size w w' := by
  go_enter Try.func7, Try.ntmps7
  go_wp2_with fail
  refine (new_ok 512 16 w (.inl rfl) (by decide)).mono ?_
  rintro e w1 ⟨rfl, hd1, hb1⟩
  have r1 : Run 0 (w.heap.size + 2) w w1 (St.new 512 16 w.heap.size) := ⟨hd1, hb1, fun k hk => by
    rcases hk with e | e | e | ⟨n, v, hv, _⟩
    · omega
    · rw [e]; exact Nat.le_refl _
    · rw [e]; exact Nat.le_succ _
    · have := valAt_has hv
      simp [St.new, Maps.has] at this⟩
  have a1 : At3 (St.new 512 16 w.heap.size) none [] := ⟨⟨rfl, rfl⟩, rfl, rfl, rfl, by funext m; simp [St.new]⟩
  clear hd1 hb1
  generalize St.new 512 16 w.heap.size = s1 at r1 a1
  generalize w.heap.size + 2 = b at *
  go_wp2_with fail
  refine (new_bad 513 16 w1 (by decide)).mono ?_
  rintro e w' ⟨rfl, rfl⟩
  go_wp2_with fail
  refine (filled_bytes 97 _).mono ?_
  rintro e w2 ⟨v2, rfl, rfl, hv2, hb2⟩
  have r2 := r1.below hb2
  go_wp2_with fail
  refine (at3_write _ _ _ _ _ r2 (by decide) _ _ a1 (by decide) _ _ (row_base hv2 (Nat.zero_le _))).mono ?_
  rintro e w3 ⟨rfl, s3, r3, a3⟩
  clear r1 r2 a1 hv2 hb2
  go_wp2_with fail
  refine (at3_barrier _ _ _ _ _ r3 (by decide) _ _ _ a3).mono ?_
  rintro e w4 ⟨rfl, s4, r4, a4⟩
  clear r3 a3
  go_wp2_with fail
  refine (filled_bytes 98 _).mono ?_
  rintro e w5 ⟨v5, rfl, rfl, hv5, hb5⟩
  have r5 := r4.below hb5
  go_wp2_with fail
  refine (at3_write _ _ _ _ _ r5 (by decide) _ _ a4 (by decide) _ _ (row_base hv5 (Nat.zero_le _))).mono ?_
  rintro e w6 ⟨rfl, s6, r6, a6⟩
  clear r4 r5 a4 hv5 hb5
  go_wp2_with fail
  refine (filled_bytes 99 _).mono ?_
  rintro e w7 ⟨v7, rfl, rfl, hv7, hb7⟩
  have r7 := r6.below hb7
  go_wp2_with fail
  refine (at3_write _ _ _ _ _ r7 (by decide) _ _ a6 (by simp) _ _ (row_base hv7 (Nat.zero_le _))).mono ?_
  rintro e w8 ⟨rfl, s8, r8, a8⟩
  clear r6 r7 a6 hv7 hb7
  go_wp2_with fail
  refine (at3_pending _ _ _ _ _ r8 (by decide) _ _ (by simp) a8).mono ?_
  rintro e w9 ⟨gp, capp, rfl, hgp, hp0, hp1, r9⟩
  have hbl8 := r8.dev.own_lt (.inl rfl)
  have ho8 : ∀ k, Own b s8 k → k < w8.heap.size := fun k hk => r8.dev.own_lt hk
  have a9 : At3 s8 (some (some (fillB 97))) [fillB 98, fillB 99] := a8
  replace hp1 : w9.cell? ⟨gp, 1, none⟩ = some (.int .i64 2) := hp1
  clear a8 r8
  go_wp2_with fail
  refine (at3_read _ _ _ _ _ r9 _ _ a9 (fillB 99) (by simp [shows, a9.waits])).mono ?_
  rintro e w10 ⟨v10, rfl, hv10, ⟨s10, r10, a10, ho10⟩, k10⟩
  have q0 := kept_cell_some k10 hp0 (fun e => by omega)
  have q1 := kept_cell_some k10 hp1 (fun e => by omega)
  clear hp0 hp1 a9 r9 k10
  go_wp2_with fail
  have hbx : Below w10.heap.size w10 (w10.alloc (.cells #[.int .i64 1] 3)) := (Below.refl _ _).alloc (Nat.le_refl _) _
  have r11 := r10.below hbx
  refine (at3_restart _ _ _ _ _ r11 (by decide) _ _ _ (by simp) a10 w10.heap.size (by simp) (fun ho => by have := r10.dev.own_lt ho; omega) (by simp)).mono ?_
  rintro e w12 ⟨rfl, ⟨s12, r12, a12⟩, k12⟩
  have hgo : ¬ Own b s10 gp := fun ho => by have := ho8 gp (ho10 gp ho); omega
  have hgl : gp < w10.heap.size := by
    unfold World.cell? at q0
    cases e : w10.heap[gp]? with
    | none => simp [e] at q0
    | some o => exact (Array.getElem?_eq_some_iff.1 e).1
  have p0 := kept_cell_some k12 (Eq.trans (hbx.cell (p := ⟨gp, 0, none⟩) hgl) q0) hgo
  have p1 := kept_cell_some k12 (Eq.trans (hbx.cell (p := ⟨gp, 1, none⟩) hgl) q1) hgo
  have u10 : bytesAt w12 512 v10 (fillB 99) := bytes_kept (row_base (hv10.alloc _) (Nat.zero_le _)) k12 (fun g hg ho => r11.dev.own_not_bytes ho hg)
  clear q0 q1 hv10 k12 r10 r11 hbx a10
  go_wp2_with fail
  refine (at3_read _ _ _ _ _ r12 _ _ a12 (fillB 98) (by simp [shows, a12.waits, a12.last])).mono ?_
  rintro e w13 ⟨v13, rfl, hv13, ⟨s13, r13, a13, ho13⟩, k13⟩
  have t0 := kept_cell_some k13 p0 (fun e => by omega)
  have t1 := kept_cell_some k13 p1 (fun e => by omega)
  have u11 : bytesAt w13 512 v10 (fillB 99) := bytes_kept u10 k13 (fun g hg e => r12.dev.own_not_bytes (.inl e) hg)
  have u13 : bytesAt w13 512 v13 (fillB 98) := row_base hv13 (Nat.zero_le _)
  have HS : Hid (∀ W, Below w13.heap.size w13 W → W.cell? ⟨gp, 0, none⟩ = some (.int .i64 3) ∧ W.cell? ⟨gp, 1, none⟩ = some (.int .i64 2) ∧ (convert 29 9 v10).run Try.prog W = .ok (.string (strB (fillB 99))) W ∧ (convert 29 9 v13).run Try.prog W = .ok (.string (strB (fillB 98))) W) := by
    intro W hW
    have kW : Kept (fun _ => False) w13 W := Kept.of_below hW
    exact ⟨kept_cell_some kW t0 id, kept_cell_some kW t1 id, conv_bytes (bytes_kept u11 kW (fun _ _ => id)) (by decide), conv_bytes (bytes_kept u13 kW (fun _ _ => id)) (by decide)⟩
  have HB : Hid (Below w.heap.size w w13) := r13.old
  have hwsz := r13.old.size
  obtain ⟨z0, z1, z2, z3⟩ := HS.out w13.drew (below_drew _ _)
  clear p0 p1 u10 u11 u13 hv13 k13 r12 r13 a12 a13 ho13 ho10 ho8 hgo t0 t1 hgl hgp hbl8
  go_wp2_with fail
  go_region_held_law (fun W => W.cell? ⟨gp, 0, none⟩ = some (.int .i64 3) ∧ W.cell? ⟨gp, 1, none⟩ = some (.int .i64 2) ∧ (convert 29 9 v10).run Try.prog W = .ok (.string (strB (fillB 99))) W ∧ (convert 29 9 v13).run Try.prog W = .ok (.string (strB (fillB 98))) W) (go_keep)
    (first
      | (go_at_call_of 12 (Value.int .u8 99); refine (filled_bytes 99 _).mono ?_; rintro e w14 ⟨v14, rfl, rfl, hv14, hb14⟩
         have hx14 : Below w13.heap.size w13 w14 := (below_drew _ w13).trans hb14
         obtain ⟨y0, y1, y2, y3⟩ := HS.out w14 hx14
         have y4 : (convert 29 9 (.slice (some ⟨w13.heap.size, 0, none⟩) 512 512)).run Try.prog w14 = .ok (.string (strB (fillB 99))) w14 := conv_bytes (row_base hv14 (Nat.zero_le _)) (by decide))
      | (go_at_call_of 12 (Value.int .u8 98); refine (filled_bytes 98 _).mono ?_; rintro e w15 ⟨v15, rfl, rfl, hv15, hb15⟩
         have hx15 : Below w13.heap.size w13 w15 := hx14.trans (hb15.mono hx14.size)
         obtain ⟨x0, x1, x2, x3⟩ := HS.out w15 hx15
         have x4 : (convert 29 9 (.slice (some ⟨w14.heap.size, 0, none⟩) 512 512)).run Try.prog w15 = .ok (.string (strB (fillB 98))) w15 := conv_bytes (row_base hv15 (Nat.zero_le _)) (by decide)))
  go_wp2
  go_ret
  exact ⟨rfl, HB.out.trans (hx15.mono hwsz)⟩

set_option maxHeartbeats 1000000 in
theorem devNames_any (w : World) : Calls Try.prog 3 #[] w fun e w' => e = .returned (.bool true) ∧ Below w.heap.size w w' := by
  go_enter Try.func3, Try.ntmps3
  go_wp2_with fail
  refine (awake_any w).mono ?_
  rintro e w1 ⟨rfl, hb⟩
  go_wp2
  go_ret
  exact ⟨rfl, hb⟩
end Go.Proofs.Ytphnajphgiinfaa
