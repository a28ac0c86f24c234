/- The document's four, Encode, told. -/
import Derived.Test.YtlokplnapaghhaaDoorRefRuns
namespace Go.Proofs.YtlokplnapaghhaaDoor
open Go.RowKit

theorem be4_cells (n : Nat) : (be4 n).map encB = [.int .u8 ((n : Int) / 16777216 % 256), .int .u8 ((n : Int) / 65536 % 256), .int .u8 ((n : Int) / 256 % 256), .int .u8 ((n : Int) % 256)] := by
  have h := fun k => byte_said n k
  have h0 := h 24
  have h1 := h 16
  have h2 := h 8
  have h3 := h 0
  simp only [Nat.reducePow, Nat.pow_zero, Nat.div_one, Int.reducePow, Int.pow_zero, Int.ediv_one] at h0 h1 h2 h3
  simp only [be4, List.map_cons, List.map_nil, h0, h1, h2, h3]
/-- Bytes put behind others. -/
theorem wpList_append_bs {w : World} {ops : Array Oper} {rest : List Oper} {o : Oper} {a : Act} {Q : Exit → Act → World → Prop} (hgd : o.guard = none) (s x : Operand)
    (ho : o.op = .call { callee := .builtin .append, args := #[s, x], argTypes := #[37, 37] }) (base : Nat)
    (v : Value) (L F : List UInt8) (m : Nat) (hF : F.length = m) (hs : a.eval s = v) (hv : NewB base w v L) (g c : Nat) (hx : a.eval x = .slice (some ⟨g, 0, none⟩) m c)
    (hc : ∀ (j : Nat) y, F[j]? = some y → w.cell? ⟨g, j, none⟩ = some (encB y))
    (hlen : L.length + m ≤ 140737488355328) (hbase : base ≤ w.heap.size)
    (h : ∀ v' w', NewB base w' v' (L ++ F) → Keep 5 base w w' → wpList Tryd.prog ops Q rest (a.put o.dst v') w') : wpList Tryd.prog ops Q (o :: rest) a w := by
  obtain ⟨i0, hi, hz0, hz1, hz2⟩ := infoB'
  subst hF
  refine wpList_append_own w hgd s x 37 ho base 5 i0 _ 1 1 Tryd.underlying37 hi hz0 hz1 hz2 rfl (by decide) _ _ _ hs hv ⟨g, 0, none⟩ F.length c (F.map encB) hx (by simp) ?_ ?_ (by unfold maxLen; omega) (by omega) hbase ?_
  · intro j u hj
    rw [add_at, Nat.zero_add]
    rw [List.getElem?_map] at hj
    cases e : F[j]? with
    | none => rw [e] at hj; cases hj
    | some y =>
      rw [e] at hj
      cases hj
      exact hc j y e
  · intro u hu
    obtain ⟨y, _, rfl⟩ := List.mem_map.1 hu
    rfl
  · intro v' w' hown hgr _
    refine h v' w' ?_ (Keep.grown hv hgr hbase)
    show w'.ownsRow base 5 1 v' (L ++ F).length ((L ++ F).map encB)
    rw [List.length_append, List.map_append]
    exact hown
set_option maxHeartbeats 800000 in
theorem four_any (w : World) (base : Nat) (v : Value) (L : List UInt8) (n : Nat) (hv : NewB base w v L) (hL : L.length ≤ 1048576) (hb : base ≤ w.heap.size) :
    Calls Tryd.prog 38 #[v, .int .i64 n] w fun e w' => ∃ v', e = .returned v' ∧ NewB base w' v' (L ++ be4 n) ∧ Keep 5 base w w' := by
  obtain ⟨wa, hwa⟩ : ∃ wa, wa = w.alloc (.cells #[.int .u8 ((n : Int) / 16777216 % 256), .int .u8 ((n : Int) / 65536 % 256), .int .u8 ((n : Int) / 256 % 256), .int .u8 ((n : Int) % 256)] 5) := ⟨_, rfl⟩
  have hba : Below w.heap.size w wa := by rw [hwa]; exact (Below.refl _ _).alloc (Nat.le_refl _) _
  have hc : ∀ (j : Nat) y, (be4 n)[j]? = some y → wa.cell? ⟨w.heap.size, j, none⟩ = some (encB y) := fun j y hj => by
    rw [hwa, row_cell (heap_alloc_last w _)]
    have e : ((be4 n).map encB)[j]? = some (encB y) := by rw [List.getElem?_map, hj]; rfl
    rw [be4_cells] at e
    rw [← e]
    simp
  have hsz := hba.size
  have HV : Hid (NewB base wa v L) := own_here hv hba
  have HK : Hid (Keep 5 base w wa) := Keep.of hba hb
  have HFL : Hid ((be4 n).length = 4) := be4_length n
  have HC : Hid _ := hc
  have HBB : Hid (base ≤ wa.heap.size) := by show _ ≤ _; omega
  have hlen : L.length + 4 ≤ 140737488355328 := by omega
  generalize be4 n = F at HFL HC ⊢
  clear hv hba hc
  subst hwa
  go_enter Tryd.func38, Tryd.ntmps38
  go_wp2_with (at_builtin; refine wpList_append_bs rfl _ _ rfl base v L F 4 HFL.out rfl HV.out w.heap.size 4 rfl HC.out hlen HBB.out ?_; intro v' w' hv' hk')
  go_ret
  exact ⟨_, rfl, hv', HK.out.trans hk'⟩
set_option maxHeartbeats 800000 in
theorem told_any {B : Nat} (w : World) (a : Option Addr) (cap : Nat) (bs : List UInt8) (h : BytesAt B w a bs) (hl : bs.length = 4) :
    Calls Tryd.prog 41 #[.slice a 4 cap] w fun e w' => e = .returned (.int .i64 (told bs : Int)) ∧ ∃ q, w' = w.drewN q := by
  match bs, hl with
  | [x0, x1, x2, x3], _ =>
    obtain ⟨g, off, rfl, hg, hc0⟩ := h 0 x0 rfl
    have hc : ∀ j c, [x0, x1, x2, x3][j]? = some c → w.cell? ⟨g, off + j, none⟩ = some (.int .u8 (c.toNat : Int)) := fun j c hj => by
      obtain ⟨g', off', e, _, hcell⟩ := h j c hj
      cases e
      exact hcell
    have c0 := hc 0 x0 rfl
    have c1 := hc 1 x1 rfl
    have c2 := hc 2 x2 rfl
    have c3 := hc 3 x3 rfl
    rw [Nat.add_zero] at c0
    have y0 := UInt8.toNat_lt x0
    have y1 := UInt8.toNat_lt x1
    have y2 := UInt8.toNat_lt x2
    have y3 := UInt8.toNat_lt x3
    have HE : Hid ((told [x0, x1, x2, x3] : Int) = (((x0.toNat : Int) * 256 + x1.toNat) * 256 + x2.toNat) * 256 + x3.toNat) := by
      show _ = _
      simp only [told, List.take_succ_cons, List.take_nil, bev, List.foldl_cons, List.foldl_nil]
      omega
    clear hc hc0 h
    go_enter Tryd.func41, Tryd.ntmps41
    go_wp2
    go_quiet (fail)
    go_wp2
    go_ret
    exact ⟨by rw [HE.out]; rfl, _, rfl⟩
end Go.Proofs.YtlokplnapaghhaaDoor
