/- slices.Insert of one life. -/
import Derived.Test.YtcfmcakdgamdmaaSearchL
import Derived.Shelf.Spec.SlicesInsertGrow
import Derived.Deep.AppendLies
import Derived.Laws.CopyRow
namespace Go.Proofs.Ytcfmcakdgamdmaa
open Go.RowKit

/-- A row of cells, some laid over it. -/
def lay (cur : Array Value) (o : Nat) (cs : List Value) : Array Value := (cur.toList.take o ++ cs ++ cur.toList.drop (o + cs.length)).toArray
theorem lay_size (cur : Array Value) (o : Nat) (cs : List Value) (h : o + cs.length ≤ cur.size) : (lay cur o cs).size = cur.size := by simp [lay]; omega
theorem run_copyK (w : World) (dT sT ty elem : TypeId) (k g o dLen dCap : Nat) (a : Addr) (sLen sCap : Nat) (cur : Array Value) (t : TypeId) (cs : List Value) (m : Nat)
    (hu : Try.prog.underlying dT = some (.slice elem)) (hs : (Try.prog.info? elem).map (·.size) = some k)
    (hg : w.heap[g]? = some (.cells cur t (0, 0))) (hm : m = Nat.min sLen dLen) (hn : cs.length = m * k)
    (hsrc : ∀ j v, cs[j]? = some v → w.cell? (a.add j) = some v) (hfit : o + cs.length ≤ cur.size) (h1 : ∀ v ∈ cs, v.oneCell' = true) :
    (Builtin.copy_ #[dT, sT] ty #[.slice (some ⟨g, o, none⟩) dLen dCap, .slice (some a) sLen sCap]).run Try.prog w = .ok (goInt m) (w.setRow g (lay cur o cs)) := by
  have hl := run_loadCells_list (P := Try.prog) w a cs hsrc
  have hst := run_storeCells_at Try.prog g o t cs 0 cur w hg (by simpa using hfit) h1
  cases hq : Try.prog.info? elem with
  | none => simp [hq] at hs
  | some i =>
    have hi : i.size = k := by simpa [hq] using hs
    simp [Builtin.copy_, run_underlying hu, Builtin.lenOf, Builtin.firstCells, sizeOf, typeInfo, hq, hi, ← hm, ← hn, hl, hst, lay]
/-- Where a row lies behind an insertion. -/
def Moved (w : World) (v v' : Value) : Prop := ∀ k, v'.ownBlock = some k → v.ownBlock = some k ∨ w.heap.size ≤ k
structure InsPost (base : Nat) (w : World) (v : Value) (L : List Lf) (i : Nat) (x : Lf) (r : Ending) (w' : World) : Prop where
  is : ∃ v', r = .returned v' ∧ NewL base w' v' (L.take i ++ x :: L.drop i) ∧ w.grownBy w' v.ownBlock ∧ Moved w v v'
set_option maxHeartbeats 1600000 in
set_option maxRecDepth 100000 in
theorem insert_end {base : Nat} {w : World} {v : Value} {L : List Lf} {x : Lf} {g : Nat} (hv : NewL base w v L) (hb : base ≤ w.heap.size) (hlen : (L.length + 1) * 24 ≤ 140737488355328)
    (hg : w.heap[g]? = some (.cells #[.int .i64 x.p, .int .u64 x.b, .int .u64 x.d] 34 (0, 0))) :
    Calls Try.prog 39 #[v, .int .i64 (L.length : Int), .slice (some ⟨g, 0, none⟩) 1 1] w fun r w' => InsPost base w v L L.length x r w' := by
  obtain ⟨i0, hi, hz0, hz1, hz2⟩ := infoL'
  have HV : Hid _ := hv
  have hsrc : ∀ j u, (flatL [x])[j]? = some u → w.cell? ((⟨g, 0, none⟩ : Addr).add j) = some u := fun j u hj => by
    rw [add_at, Nat.zero_add, row_cell hg]
    rw [show flatL [x] = [.int .i64 x.p, .int .u64 x.b, .int .u64 x.d] from rfl] at hj
    rw [← Array.getElem?_toList]
    exact hj
  have HS : Hid _ := hsrc
  have HE : Hid (L.take L.length ++ x :: L.drop L.length = L ++ [x]) := by show _ = _; simp
  rcases RowAt.own hv with ⟨⟨a, c, rfl, hc, hn, _⟩, _⟩
  clear hv hsrc
  cases a with
  | none =>
    obtain rfl := hn rfl
    have h0 : L = [] := List.eq_nil_of_length_eq_zero (by omega)
    subst h0
    go_enter Try.func39, Try.ntmps39
    go_wp2_with (at_builtin; refine wpList_append_lies _ rfl _ _ 39 rfl base 34 i0 _ 3 24 Try.underlying39 hi hz0 hz1 hz2 rfl (by decide) (.slice none 0 0) 0 _ rfl HV.out ⟨g, 0, none⟩ 1 1 (flatL [x]) rfl (flatL_length [x]) HS.out (flatL_one _) (by decide) (by unfold maxLen; omega) (by omega) hb _ rfl ?_; intro g' cap w' hown hgr hat _; have HO : Hid _ := hown; have HG : Hid _ := hgr; have HA : Hid _ := hat; clear hown hgr hat)
    go_ret
    refine ⟨.slice (some ⟨g', 0, none⟩) 1 cap, rfl, HO.out, HG.out, fun k hk => ?_⟩
    have hk' : g' = k := by simpa [Value.ownBlock] using hk
    rcases HA.out with h | h
    · cases h
    · exact .inr (by omega)
  | some ad =>
    have hcz : (L.length : Int) ≤ (c : Int) := by omega
    go_enter Try.func39, Try.ntmps39
    go_wp2_with (at_builtin; refine wpList_append_lies _ rfl _ _ 39 rfl base 34 i0 _ 3 24 Try.underlying39 hi hz0 hz1 hz2 rfl (by decide) (.slice (some ad) L.length c) L.length _ rfl HV.out ⟨g, 0, none⟩ 1 1 (flatL [x]) rfl (flatL_length [x]) HS.out (flatL_one _) (by decide) (by unfold maxLen; omega) (by omega) hb _ rfl ?_; intro g' cap w' hown hgr hat _; have HO : Hid _ := hown; have HG : Hid _ := hgr; have HA : Hid _ := hat; clear hown hgr hat)
    all_goals
      go_ret
      refine ⟨.slice (some ⟨g', 0, none⟩) (L.length + 1) cap, rfl, ?_, HG.out, fun k hk => ?_⟩
      · rw [HE.out]
        show w'.ownsRow base 34 3 _ (L ++ [x]).length (flatL (L ++ [x]))
        rw [flatL_append, List.length_append]
        exact HO.out
      · have hk' : g' = k := by simpa [Value.ownBlock] using hk
        rw [← hk']
        rcases HA.out with h | h
        · exact .inl h
        · exact .inr (by omega)
end Go.Proofs.Ytcfmcakdgamdmaa
