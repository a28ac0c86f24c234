/- slices.Insert of one life ahead of others. -/
import Derived.Test.YtcfmcakdgamdmaaInsert
namespace Go.Proofs.Ytcfmcakdgamdmaa
open Go.RowKit

theorem lay_shift {cur : Array Value} {L : List Lf} {x : Lf} {n : Nat} {i : Nat} (hn : n = L.length) (hi : i < n) (hs : (n + 1) * 3 ≤ cur.size) (ht : cur.toList.take (n * 3) = flatL L) :
    (lay (lay cur ((i + 1) * 3) (flatL (L.drop i))) (i * 3) (encL x)).toList.take ((n + 1) * 3) = flatL (L.take i ++ x :: L.drop i) := by
  subst hn
  have hl1 : (flatL (L.drop i)).length = (L.length - i) * 3 := by rw [flatL_length, List.length_drop]
  have h1 : (lay cur ((i + 1) * 3) (flatL (L.drop i))).size = cur.size := lay_size _ _ _ (by rw [hl1]; omega)
  have h2 : (lay (lay cur ((i + 1) * 3) (flatL (L.drop i))) (i * 3) (encL x)).size = cur.size := by rw [lay_size _ _ _ (by rw [h1]; simp [encL]; omega), h1]
  have e1 : cur.toList.take (i * 3) = flatL (L.take i) := by
    rw [flatL_take, ← ht, List.take_take, Nat.min_eq_left (by omega)]
  have hla : (flatL (L.take i)).length = i * 3 := by rw [flatL_length, List.length_take, Nat.min_eq_left (by omega)]
  have e2 : flatL (L.take i ++ x :: L.drop i) = flatL (L.take i) ++ (encL x ++ flatL (L.drop i)) := by
    rw [flatL_append]; rfl
  rw [e2, ← e1]
  rw [← e1] at hla
  have hcs : cur.toList.length = cur.size := by simp
  unfold lay
  apply List.ext_getElem?
  intro j
  have hx3 : (encL x).length = 3 := rfl
  simp only [List.getElem?_take, List.getElem?_append, List.length_append, List.length_take, List.length_drop, List.getElem?_drop, hl1, hx3, hcs, Nat.min_def]
  grind
set_option maxHeartbeats 3200000 in
set_option maxRecDepth 100000 in
theorem insert_room {base : Nat} {w : World} {L : List Lf} {x : Lf} {g b c i : Nat} {cur : Array Value} (hbb : base ≤ b) (hcur : w.heap[b]? = some (.cells cur 34 (0, 0))) (hcs : cur.size = c * 3) (hcm : c ≤ maxLen) (ht : cur.toList.take (L.length * 3) = flatL L)
    (hi : i < L.length) (hroom : L.length + 1 ≤ c)
    (hg : w.heap[g]? = some (.cells #[.int .i64 x.p, .int .u64 x.b, .int .u64 x.d] 34 (0, 0))) (hgb : g ≠ b) :
    Calls Try.prog 39 #[.slice (some ⟨b, 0, none⟩) L.length c, .int .i64 (i : Int), .slice (some ⟨g, 0, none⟩) 1 1] w fun r w' => InsPost base w (.slice (some ⟨b, 0, none⟩) L.length c) L i x r w' := by
  unfold maxLen at hcm
  have hz2 : ¬ ((i : Int) = (L.length : Int)) := by omega
  have hiz : (i : Int) ≤ (L.length : Int) := by omega
  have hcz : (L.length : Int) + 1 ≤ (c : Int) := by omega
  have hnc : ¬ ((c : Int) < (L.length : Int) + 1) := by omega
  have hov : ∀ (o lb cb : Nat), (callFunc 49 #[.slice (some ⟨g, 0, none⟩) 1 1, .slice (some ⟨b, o, none⟩) lb cb]).run Try.prog w = .ok (.value (.bool false)) w := fun o lb cb => by
    rw [run_callFunc_extern Try.func49 (by kernel_rfl) (by kernel_rfl) (by kernel_rfl) (e := Extern.SlicesOverlaps.overlaps #[39, 39] #[4]) (by kernel_rfl),
      Lib.run_overlaps_apart w 39 4 34 Try.underlying39 3 Try.sizeOf34 ⟨g, 0, none⟩ ⟨b, o, none⟩ 1 1 lb cb hgb 34 34 3 cur.size (by simp [World.shape?, hg]) (by simp [World.shape?, hcur]) (by omega) (row_frozen hg 0) (row_frozen hg 3)]
    rfl
  have hszL : (Try.prog.info? 34).map (·.size) = some 3 := by kernel_rfl
  have hl1 : (flatL (L.drop i)).length = (L.length - i) * 3 := by rw [flatL_length, List.length_drop]
  have hfit1 : (i + 1) * 3 + (flatL (L.drop i)).length ≤ cur.size := by rw [hl1, hcs]; omega
  have hget : ∀ j u, (flatL L)[j]? = some u → cur[j]? = some u := fun j u hj => by
    rw [← ht, List.getElem?_take] at hj
    split at hj
    · rw [← Array.getElem?_toList]; exact hj
    · cases hj
  have hcp1 : ∀ (W : World), W.heap[b]? = some (.cells cur 34 (0, 0)) → ∀ ty dc sc, (Builtin.copy_ #[39, 39] ty #[.slice (some ⟨b, (i + 1) * 3, none⟩) (L.length + 1 - (i + 1)) dc, .slice (some ⟨b, i * 3, none⟩) (L.length + 1 - i) sc]).run Try.prog W = .ok (goInt ((L.length - i : Nat) : Int)) (W.setRow b (lay cur ((i + 1) * 3) (flatL (L.drop i)))) := fun W hW ty dc sc =>
    run_copyK W _ _ ty 34 3 b ((i + 1) * 3) _ dc ⟨b, i * 3, none⟩ _ sc cur 34 (flatL (L.drop i)) (L.length - i) Try.underlying39 hszL hW (by simp only [Nat.min_def]; split <;> omega) hl1
      (fun j u hj => by rw [add_at, row_cell hW]; rw [flatL_drop, List.getElem?_drop] at hj; exact hget _ _ hj) hfit1 (flatL_one _)
  have hsz1 := lay_size cur ((i + 1) * 3) (flatL (L.drop i)) hfit1
  have HSH : Hid _ := lay_shift (x := x) rfl hi (by rw [hcs]; omega) ht
  have hfit2 : i * 3 + (encL x).length ≤ (lay cur ((i + 1) * 3) (flatL (L.drop i))).size := by rw [hsz1, hcs]; simp [encL]; omega
  have hsz2 := lay_size (lay cur ((i + 1) * 3) (flatL (L.drop i))) (i * 3) (encL x) hfit2
  have hcp2 : ∀ (W : World) (cur1 : Array Value), cur1 = lay cur ((i + 1) * 3) (flatL (L.drop i)) → W.heap[b]? = some (.cells cur1 34 (0, 0)) → W.heap[g]? = w.heap[g]? → ∀ ty dc, (Builtin.copy_ #[39, 39] ty #[.slice (some ⟨b, i * 3, none⟩) (L.length + 1 - i) dc, .slice (some ⟨g, 0, none⟩) 1 1]).run Try.prog W = .ok (goInt 1) (W.setRow b (lay cur1 (i * 3) (encL x))) := fun W cur1 hc1 hW hWg ty dc => by
    rw [← hc1] at hfit2
    exact run_copyK W _ _ ty 34 3 b (i * 3) _ dc ⟨g, 0, none⟩ _ 1 cur1 34 (encL x) 1 Try.underlying39 hszL hW (by simp only [Nat.min_def]; split <;> omega) rfl
      (fun j u hj => by rw [add_at, row_cell (hWg.trans hg), Nat.zero_add, ← Array.getElem?_toList]; exact hj) hfit2 (flatL_one [x])
  obtain ⟨cur1, hcur1⟩ : ∃ cur1, cur1 = lay cur ((i + 1) * 3) (flatL (L.drop i)) := ⟨_, rfl⟩
  rw [← hcur1] at hcp1 hsz1 hsz2 HSH
  have HCP2 := fun W => hcp2 W cur1 hcur1
  obtain ⟨cur2, hcur2⟩ : ∃ cur2, cur2 = lay cur1 (i * 3) (encL x) := ⟨_, rfl⟩
  rw [← hcur2] at HCP2 hsz2 HSH
  have HC2 : Hid _ := HCP2
  have HC1 : Hid _ := hcp1
  have HZ2 : Hid (cur2.size = c * 3) := by show _ = _; omega
  have HC0 : Hid _ := hcur
  have HGB : Hid (g ≠ b) := hgb
  have hci : ¬ c = i := by omega
  have hci1 : ¬ c = i + 1 := by omega
  have hi1 : (i : Int) + 1 ≤ (L.length : Int) + 1 := by omega
  have hi2 : (i : Int) ≤ (L.length : Int) + 1 := by omega
  have hw1 : IntKind.i64.wrap ((i : Int) + 1) = (i : Int) + 1 := by rw [IntKind.wrap_i64]; omega
  have hw2 : (0 : Int) ≤ (i : Int) + 1 := by omega
  have hw3 : ((i : Int) + 1).toNat = i + 1 := by omega
  clear hcp1 hcp2 HCP2 hcur1 hcur2 hsz1 hsz2 hfit1 hfit2 hget hl1 ht hcs
  go_enter Try.func39, Try.ntmps39
  go_wp2_with (simp only [hov])
  clear hov
  go_region_law (refine step_copy_runI rfl _ _ 39 39 rfl (.slice (some ⟨b, (i + 1) * 3, none⟩) (L.length + 1 - (i + 1)) (c - (i + 1))) (.slice (some ⟨b, i * 3, none⟩) (L.length + 1 - i) (c - i)) (by simp [Act.eval, Act.put]) (by simp [Act.eval, Act.put]) (HC1.out w.drew HC0.out _ _ _) ?_)
  have hW1 : (w.drew.setRow b cur1).heap[b]? = some (.cells cur1 34 (0, 0)) := setRow_heap w.drew b cur cur1 34 (0, 0) HC0.out
  have hW2 : (w.drew.setRow b cur1).heap[g]? = w.heap[g]? := setRow_other w.drew b g cur1 HGB.out
  have HW1 : Hid _ := hW1
  have HW2 : Hid _ := hW2
  clear hW1 hW2
  go_wp2_with (refine wpList_copy_runI _ rfl _ _ 39 39 rfl (.slice (some ⟨b, i * 3, none⟩) (L.length + 1 - i) (c - i)) (.slice (some ⟨g, 0, none⟩) 1 1) rfl rfl (HC2.out _ HW1.out HW2.out _ _) ?_)
  go_ret
  refine ⟨.slice (some ⟨b, 0, none⟩) (L.length + 1) c, rfl, ⟨?_, .inr ⟨b, c, cur2, ?_, hbb, setRow_heap _ b cur1 cur2 34 (0, 0) HW1.out, ?_, by unfold maxLen; omega, HZ2.out, ?_⟩⟩, ⟨rfl, rfl, rfl, ?_, fun k hk hne => ?_⟩, fun k hk => .inl hk⟩
  · rw [flatL_length]
  · rw [List.length_append, List.length_cons, List.length_take, List.length_drop, Nat.min_eq_left (by omega)]
    congr 1
    omega
  · rw [List.length_append, List.length_cons, List.length_take, List.length_drop, Nat.min_eq_left (by omega)]
    omega
  · rw [List.length_append, List.length_cons, List.length_take, List.length_drop, Nat.min_eq_left (by omega), show i + (L.length - i + 1) = L.length + 1 by omega]
    exact HSH.out
  · simp
  · have hkb : k ≠ b := fun e => hne (by rw [e]; rfl)
    rw [setRow_other _ b k cur2 hkb]
    exact setRow_other w.drew b k cur1 hkb
theorem lay_grow {ROW : Array Value} {L : List Lf} {x : Lf} {i : Nat} (hi : i < L.length) (hs : (L.length + 1) * 3 ≤ ROW.size) (ht : ROW.toList.take (i * 3) = flatL (L.take i)) :
    (lay (lay ROW (i * 3) (encL x)) ((i + 1) * 3) (flatL (L.drop i))).toList.take ((L.length + 1) * 3) = flatL (L.take i ++ x :: L.drop i) := by
  have hl1 : (flatL (L.drop i)).length = (L.length - i) * 3 := by rw [flatL_length, List.length_drop]
  have hla : (flatL (L.take i)).length = i * 3 := by rw [flatL_length, List.length_take, Nat.min_eq_left (by omega)]
  have e2 : flatL (L.take i ++ x :: L.drop i) = flatL (L.take i) ++ (encL x ++ flatL (L.drop i)) := by
    rw [flatL_append]; rfl
  rw [e2, ← ht]
  rw [← ht] at hla
  have hcs : ROW.toList.length = ROW.size := by simp
  unfold lay
  apply List.ext_getElem?
  intro j
  have hx3 : (encL x).length = 3 := rfl
  simp only [List.getElem?_take, List.getElem?_append, List.length_append, List.length_take, List.length_drop, List.getElem?_drop, hl1, hx3, hcs, Nat.min_def]
  grind
set_option maxHeartbeats 3200000 in
set_option maxRecDepth 100000 in
theorem insert_grow {base : Nat} {w : World} {L : List Lf} {x : Lf} {g b c i : Nat} {cur : Array Value} (hbase : base ≤ w.heap.size) (hcur : w.heap[b]? = some (.cells cur 34 (0, 0))) (ht : cur.toList.take (L.length * 3) = flatL L)
    (hi : i < L.length) (hLc : L.length ≤ c) (hroom : c < L.length + 1) (hlen : (L.length + 1) * 24 ≤ 140737488355328)
    (hg : w.heap[g]? = some (.cells #[.int .i64 x.p, .int .u64 x.b, .int .u64 x.d] 34 (0, 0))) :
    Calls Try.prog 39 #[.slice (some ⟨b, 0, none⟩) L.length c, .int .i64 (i : Int), .slice (some ⟨g, 0, none⟩) 1 1] w fun r w' => InsPost base w (.slice (some ⟨b, 0, none⟩) L.length c) L i x r w' := by
  obtain ⟨i0, hi0, hz0, hz1, hzb⟩ := infoL'
  have hszL : (Try.prog.info? 34).map (·.size) = some 3 := by kernel_rfl
  have hbl := (Array.getElem?_eq_some_iff.1 hcur).1
  have hgl := (Array.getElem?_eq_some_iff.1 hg).1
  obtain rfl : c = L.length := by omega
  have hget : ∀ j u, (flatL L)[j]? = some u → cur[j]? = some u := fun j u hj => by
    rw [← ht, List.getElem?_take] at hj
    split at hj
    · rw [← Array.getElem?_toList]; exact hj
    · cases hj
  have hla : (flatL (L.take i)).length = i * 3 := by rw [flatL_length, List.length_take, Nat.min_eq_left (by omega)]
  have hold : (Builtin.firstCells i0.size i (.slice (some ⟨b, 0, none⟩) i L.length)).run Try.prog w.drew = .ok (flatL (L.take i)).toArray w.drew := by
    rw [hz1]
    exact run_firstCells_some w.drew 3 i ⟨b, 0, none⟩ i L.length (flatL (L.take i)) hla (fun j v hj => by
      rw [add_at, Nat.zero_add]
      show w.cell? _ = _
      rw [row_cell hcur]
      rw [flatL_take, List.getElem?_take] at hj
      split at hj
      · exact hget j v hj
      · cases hj)
  have hik : i + (L.length + 1 - i) = L.length + 1 := by omega
  have hkk : (L.length : Int) + 1 - (i : Int) = ((L.length + 1 - i : Nat) : Int) := by omega
  have hrz : ∀ ty, (Builtin.append_ #[39, 3] ty #[.slice (some ⟨b, 0, none⟩) i L.length, .int .i64 ((L.length : Int) + 1 - (i : Int))]).run Try.prog w = .ok (.slice (some ⟨w.heap.size, 0, none⟩) (L.length + 1) (grownCap w (L.length + 1) L.length 34)) (w.drew.alloc (.cells ((flatL (L.take i)).toArray ++ Builtin.zeroCells (Value.agg #[.int .i64 0, .int .u64 0, .int .u64 0]).cells (L.length + 1 - i) ++ Builtin.zeroCells (Value.agg #[.int .i64 0, .int .u64 0, .int .u64 0]).cells (grownCap w (L.length + 1) L.length 34 - (L.length + 1))) 34)) := fun ty => by
    have h := Lib.run_append_grow_zeros w 39 3 ty 34 i0 _ .i64 .i64 Try.underlying39 Try.underlying3 hi0 hz0 (some ⟨b, 0, none⟩) i L.length (flatL (L.take i)) hold (L.length + 1 - i) (by omega) (by omega) (by omega) (by omega) (by rw [hzb]; omega) (by rw [hzb, hik]; exact growslice_fits hroom hlen)
    rw [hik] at h
    rw [hkk]
    exact h
  have hG1 : L.length + 1 ≤ grownCap w (L.length + 1) L.length 34 := grownCap_ge w _ _ _
  have hG2 : grownCap w (L.length + 1) L.length 34 ≤ maxLen := grownCap_le_maxLen w _ _ _ (by unfold maxLen; omega)
  obtain ⟨G, hG⟩ : ∃ G, G = grownCap w (L.length + 1) L.length 34 := ⟨_, rfl⟩
  rw [← hG] at hrz hG1 hG2
  obtain ⟨ROW, hROW⟩ : ∃ ROW : Array Value, ROW = (flatL (L.take i)).toArray ++ Builtin.zeroCells (Value.agg #[.int .i64 0, .int .u64 0, .int .u64 0]).cells (L.length + 1 - i) ++ Builtin.zeroCells (Value.agg #[.int .i64 0, .int .u64 0, .int .u64 0]).cells (G - (L.length + 1)) := ⟨_, rfl⟩
  rw [← hROW] at hrz
  have hRs : ROW.size = G * 3 := by
    rw [hROW]
    simp only [Array.size_append, List.size_toArray, hla, size_zeroCells, Value.cells]
    simp
    omega
  have hRt : ROW.toList.take (i * 3) = flatL (L.take i) := by
    rw [hROW, ← hla]
    simp
  have hl1 : (flatL (L.drop i)).length = (L.length - i) * 3 := by rw [flatL_length, List.length_drop]
  have hfit1 : i * 3 + (encL x).length ≤ ROW.size := by rw [hRs]; simp [encL]; omega
  obtain ⟨cur1, hcur1⟩ : ∃ cur1, cur1 = lay ROW (i * 3) (encL x) := ⟨_, rfl⟩
  have hsz1 : cur1.size = G * 3 := by rw [hcur1, lay_size _ _ _ hfit1, hRs]
  have hfit2 : (i + 1) * 3 + (flatL (L.drop i)).length ≤ cur1.size := by rw [hsz1, hl1]; omega
  obtain ⟨cur2, hcur2⟩ : ∃ cur2, cur2 = lay cur1 ((i + 1) * 3) (flatL (L.drop i)) := ⟨_, rfl⟩
  have HZ2 : Hid (cur2.size = G * 3) := by show _ = _; rw [hcur2, lay_size _ _ _ hfit2, hsz1]
  have HSH : Hid (cur2.toList.take ((L.length + 1) * 3) = flatL (L.take i ++ x :: L.drop i)) := by show _ = _; rw [hcur2, hcur1]; exact lay_grow hi (by rw [hRs]; omega) hRt
  obtain ⟨N, hN⟩ : ∃ N, N = w.heap.size := ⟨_, rfl⟩
  have HC1 : Hid (∀ (W : World), W.heap[N]? = some (.cells ROW 34 (0, 0)) → W.heap[g]? = w.heap[g]? → ∀ ty dc, (Builtin.copy_ #[39, 39] ty #[.slice (some ⟨N, i * 3, none⟩) (L.length + 1 - i) dc, .slice (some ⟨g, 0, none⟩) 1 1]).run Try.prog W = .ok (goInt 1) (W.setRow N cur1)) := fun W hW hWg ty dc => by
    rw [hcur1]
    exact run_copyK W _ _ ty 34 3 N (i * 3) _ dc ⟨g, 0, none⟩ _ 1 ROW 34 (encL x) 1 Try.underlying39 hszL hW (by simp only [Nat.min_def]; split <;> omega) rfl
      (fun j u hj => by rw [add_at, row_cell (hWg.trans hg), Nat.zero_add, ← Array.getElem?_toList]; exact hj) hfit1 (flatL_one [x])
  have HC2 : Hid (∀ (W : World), W.heap[N]? = some (.cells cur1 34 (0, 0)) → W.heap[b]? = w.heap[b]? → ∀ ty dc sc, (Builtin.copy_ #[39, 39] ty #[.slice (some ⟨N, (i + 1) * 3, none⟩) (L.length + 1 - (i + 1)) dc, .slice (some ⟨b, i * 3, none⟩) (L.length - i) sc]).run Try.prog W = .ok (goInt ((L.length - i : Nat) : Int)) (W.setRow N cur2)) := fun W hW hWb ty dc sc => by
    rw [hcur2]
    exact run_copyK W _ _ ty 34 3 N ((i + 1) * 3) _ dc ⟨b, i * 3, none⟩ _ sc cur1 34 (flatL (L.drop i)) (L.length - i) Try.underlying39 hszL hW (by simp only [Nat.min_def]; split <;> omega) hl1
      (fun j u hj => by rw [add_at, row_cell (hWb.trans hcur)]; rw [flatL_drop, List.getElem?_drop] at hj; exact hget _ _ hj) hfit2 (flatL_one _)
  have HRZ : Hid _ := hrz
  rw [← hN] at HRZ
  obtain ⟨W1, hW1⟩ : ∃ W1, W1 = w.drew.alloc (.cells ROW 34) := ⟨_, rfl⟩
  rw [← hW1] at HRZ
  have HN1 : Hid (W1.heap[N]? = some (.cells ROW 34 (0, 0))) := by show _ = _; rw [hW1, hN]; exact heap_alloc_last w.drew _
  have HO1 : Hid (∀ k, k < N → W1.heap[k]? = w.heap[k]?) := fun k hk => by rw [hW1]; exact (below_new w.drew _).block k (by rw [hN] at hk; exact hk)
  have HF1 : Hid (W1.os = w.os ∧ W1.tape = w.tape ∧ W1.output = w.output ∧ w.heap.size ≤ W1.heap.size) := by rw [hW1]; exact ⟨rfl, rfl, rfl, by simp⟩
  have hgN : g < N := by rw [hN]; exact hgl
  have hbN : b < N := by rw [hN]; exact hbl
  have hz2 : ¬ ((i : Int) = (L.length : Int)) := by omega
  have hiz : (i : Int) ≤ (L.length : Int) := by omega
  have hci : ¬ G = i := by omega
  have hci1 : ¬ G = i + 1 := by omega
  have hcl : ¬ L.length = i := by omega
  have hi1 : (i : Int) + 1 ≤ (L.length : Int) + 1 := by omega
  have hi2 : (i : Int) ≤ (L.length : Int) + 1 := by omega
  have hw1 : IntKind.i64.wrap ((i : Int) + 1) = (i : Int) + 1 := by rw [IntKind.wrap_i64]; omega
  have hw2 : (0 : Int) ≤ (i : Int) + 1 := by omega
  have hw3 : ((i : Int) + 1).toNat = i + 1 := by omega
  unfold maxLen at hG2
  have HBN : Hid (base ≤ N) := by show _ ≤ _; rw [hN]; exact hbase
  have HNS : Hid (w.heap.size ≤ N) := by show _ ≤ _; rw [hN]; exact Nat.le_refl _
  clear hrz hold hik hkk hla hcur1 hcur2 hROW hRs hRt hsz1 hfit1 hfit2 hget hl1 ht hG hW1 hN hroom hLc
  go_enter Try.func39, Try.ntmps39
  go_wp2_with (first
    | (at_builtin; refine Lib.wpList_append_run _ rfl _ _ _ _ rfl _ _ rfl rfl _ _ (HRZ.out _) ?_)
    | (refine wpList_copy_runI _ rfl _ _ 39 39 rfl (.slice (some ⟨N, i * 3, none⟩) (L.length + 1 - i) (G - i)) (.slice (some ⟨g, 0, none⟩) 1 1) rfl rfl (HC1.out W1 HN1.out (HO1.out g hgN) _ _) ?_))
  have hW2 : (W1.setRow N cur1).heap[N]? = some (.cells cur1 34 (0, 0)) := setRow_heap W1 N ROW cur1 34 (0, 0) HN1.out
  have hW3 : (W1.setRow N cur1).heap[b]? = w.heap[b]? := (setRow_other W1 N b cur1 (by omega)).trans (HO1.out b hbN)
  have HW2 : Hid _ := hW2
  have HW3 : Hid _ := hW3
  clear hW2 hW3
  simp only [Act.put]
  go_region_law (refine step_copy_runI rfl _ _ 39 39 rfl (.slice (some ⟨N, (i + 1) * 3, none⟩) (L.length + 1 - (i + 1)) (G - (i + 1))) (.slice (some ⟨b, i * 3, none⟩) (L.length - i) (L.length - i)) (by simp [Act.eval, Act.put]) (by simp [Act.eval, Act.put]) (HC2.out (W1.setRow N cur1).drew HW2.out HW3.out _ _ _) ?_)
  go_wp2
  go_ret
  refine ⟨.slice (some ⟨N, 0, none⟩) (L.length + 1) G, rfl, ⟨?_, .inr ⟨N, G, cur2, ?_, HBN.out, setRow_heap _ N cur1 cur2 34 (0, 0) HW2.out, ?_, by unfold maxLen; omega, HZ2.out, ?_⟩⟩, ⟨HF1.out.1, HF1.out.2.1, HF1.out.2.2.1, ?_, fun k hk hne => ?_⟩, fun k hk => .inr ?_⟩
  · rw [flatL_length]
  · rw [List.length_append, List.length_cons, List.length_take, List.length_drop, Nat.min_eq_left (by omega)]
    congr 1
    omega
  · rw [List.length_append, List.length_cons, List.length_take, List.length_drop, Nat.min_eq_left (by omega)]
    omega
  · rw [List.length_append, List.length_cons, List.length_take, List.length_drop, Nat.min_eq_left (by omega), show i + (L.length - i + 1) = L.length + 1 by omega]
    exact HSH.out
  · have := HF1.out.2.2.2
    simpa using this
  · have hkN : k < N := Nat.lt_of_lt_of_le hk HNS.out
    rw [setRow_other _ N k cur2 (by omega)]
    show (W1.setRow N cur1).heap[k]? = _
    rw [setRow_other _ N k cur1 (by omega)]
    exact HO1.out k hkN
  · have : N = k := by simpa [Value.ownBlock] using hk
    rw [← this]
    exact HNS.out
theorem insert_any {base : Nat} {w : World} {v : Value} {L : List Lf} {x : Lf} {g i : Nat} (hv : NewL base w v L) (hb : base ≤ w.heap.size) (hi : i ≤ L.length) (hlen : (L.length + 1) * 24 ≤ 140737488355328)
    (hg : w.heap[g]? = some (.cells #[.int .i64 x.p, .int .u64 x.b, .int .u64 x.d] 34 (0, 0))) (hgv : v.ownBlock ≠ some g) :
    Calls Try.prog 39 #[v, .int .i64 (i : Int), .slice (some ⟨g, 0, none⟩) 1 1] w fun r w' => InsPost base w v L i x r w' := by
  rcases Nat.lt_or_ge i L.length with h | h
  · rcases hv.2 with ⟨_, h0⟩ | ⟨b, c, cur, rfl, hbb, hcur, hLc, hcm, hcs, ht⟩
    · omega
    · by_cases hr : L.length + 1 ≤ c
      · exact insert_room hbb hcur hcs hcm ht h hr hg (fun e => hgv (by rw [e]; rfl))
      · exact insert_grow hb hcur ht h hLc (by omega) hlen hg
  · obtain rfl : i = L.length := by omega
    exact insert_end hv hb hlen hg
end Go.Proofs.Ytcfmcakdgamdmaa
