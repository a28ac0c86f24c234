/- Bytes as strings; sameRange, sameRanges; Between, Next. -/
import Derived.Test.YtphohkchffcjeaaLists
import Derived.Test.YtphohkchffcjeaaParts
import Derived.Laws.IdiomStrings
namespace Go.Proofs.Ytphohkchffcjeaa
open Go.RowKit

/-- Bytes as a string. -/
def strB (bs : List UInt8) : ByteArray := ⟨bs.toArray⟩
theorem strB_nums (bs : List UInt8) : strOfNums (bs.map fun c => (c.toNat : Int)) = strB bs := by
  have e : (bs.map fun c => (c.toNat : Int)).map (fun n => UInt8.ofNat n.toNat) = bs := by
    rw [List.map_map]
    refine (List.map_congr_left (g := id) fun c _ => ?_).trans (List.map_id _)
    simp
  rw [strOfNums, e]
  rfl
theorem strB_inj {a b : List UInt8} (h : strB a = strB b) : a = b := by
  have := congrArg (fun x => x.data.toList) h
  simpa [strB] using this
theorem strB_eq (a b : List UInt8) : ((strB a).toList == (strB b).toList) = decide (a = b) := by
  by_cases h : a = b
  · subst h; simp
  · rw [beq_eq_false_iff_ne.2 ?_]
    · simp [h]
    · rw [ByteArray.toList_eq, ByteArray.toList_eq]
      intro e
      exact h (by simpa [strB] using e)
theorem conv_any {B : Nat} {w : World} {a : Option Addr} {bs : List UInt8} (n cap : Nat) (hb : BytesAt B w a bs) (hn : bs.length = n) : (convert 23 9 (.slice a n cap)).run Try.prog w = .ok (.string (strB bs)) w := by
  cases a with
  | none =>
    have h0 : bs = [] := by
      cases bs with
      | nil => rfl
      | cons b r => obtain ⟨_, _, e, _⟩ := hb 0 b rfl; cases e
    subst h0
    exact run_convert_bytes_nil w 23 5 Try.underlying23 Try.underlying5 n cap 9 Try.underlying9
  | some ad =>
    have hl : (loadCells ad n).run Try.prog w = .ok ((bs.map fun c => (c.toNat : Int)).map (Value.int .u8)).toArray w := by
      have := run_loadCells_list (P := Try.prog) w ad ((bs.map fun c => (c.toNat : Int)).map (Value.int .u8)) (fun j v hj => by
        rw [List.map_map, List.getElem?_map] at hj
        cases e : bs[j]? with
        | none => rw [e] at hj; cases hj
        | some c =>
          rw [e] at hj
          obtain ⟨g, off, e1, _, hc⟩ := hb j c e
          cases e1
          rw [add_at, hc]
          simpa using hj)
      simpa [hn] using this
    rw [run_convert_bytes_string w 23 9 5 _ n cap Try.underlying23 Try.underlying5 Try.underlying9, run_bytesToString w _ n cap _ hl, foldl_push_bytes, ← strB_nums]
    simp [strOfNums, ByteArray.empty, ByteArray.emptyWithCapacity]
    rfl
theorem conv_key {w : World} {v : Value} {k : Key} (h : KeyAt w v k) : (convert 23 9 v).run Try.prog w = .ok (.string (strB k)) w := by
  obtain ⟨⟨a, c, rfl, hb, _⟩, _⟩ := h
  exact conv_any _ _ hb rfl

set_option maxRecDepth 100000 in
theorem sameRange_any {w : World} {v u : Value} {r o : Rg} (h : RangeAt w v r) (hu : RangeAt w u o) :
    Calls Try.prog 28 #[v, u] w fun e w' => e = .returned (.bool (decide (r = o))) ∧ Below w.heap.size w w' := by
  obtain ⟨v1, v2, rfl, h1, h2⟩ := h.is
  obtain ⟨u1, u2, rfl, h3, h4⟩ := hu.is
  obtain ⟨W, hW⟩ : ∃ W, W = (w.alloc (.cells #[v1, v2, .bool r.all] 36)).alloc (.cells #[u1, u2, .bool o.all] 36) := ⟨_, rfl⟩
  have HB : Hid (Below w.heap.size w W) := by rw [hW]; exact (below_new w _).alloc (by simp) _
  have hx0 : Box W w.heap.size v1 v2 (.bool r.all) := by rw [hW]; exact (Box.new _ _ _ _).alloc _
  have hx1 : Box W (w.heap.size + 1) u1 u2 (.bool o.all) := by
    rw [hW]
    have := Box.new (w.alloc (.cells #[v1, v2, .bool r.all] 36)) u1 u2 (.bool o.all)
    simpa using this
  have e1 := conv_key (h1.here HB.out)
  have e2 := conv_key (h2.here HB.out)
  have e3 := conv_key (h3.here HB.out)
  have e4 := conv_key (h4.here HB.out)
  obtain ⟨a1, c1, rfl, _⟩ := h1.is
  obtain ⟨a2, c2, rfl, _⟩ := h2.is
  obtain ⟨a3, c3, rfl, _⟩ := h3.is
  obtain ⟨a4, c4, rfl, _⟩ := h4.is
  have s1 := strB_eq r.lo o.lo
  have s2 := strB_eq r.hi o.hi
  obtain ⟨k0, k1, k2⟩ := hx0.cells
  obtain ⟨m0, m1, m2⟩ := hx1.cells
  have HE : Hid (decide (r = o) = (decide (r.lo = o.lo) && (decide (r.hi = o.hi) && (r.all == o.all)))) := by
    unfold Hid
    rcases r with ⟨_, _, x⟩
    rcases o with ⟨_, _, y⟩
    cases x <;> cases y <;> simp
  generalize strB r.lo = S1 at e1 s1
  generalize strB r.hi = S2 at e2 s2
  generalize strB o.lo = S3 at e3 s1
  generalize strB o.hi = S4 at e4 s2
  generalize decide (r.lo = o.lo) = d1 at s1 HE
  generalize decide (r.hi = o.hi) = d2 at s2 HE
  clear hx0 hx1 h h1 h2 h3 h4 hu
  go_enter Try.func28, Try.ntmps28
  go_upto_region 1 with fail
  rw [← hW]
  clear hW
  cases d1 <;> cases d2
  all_goals
    go_wp2
    go_ret
    exact ⟨ret_bool (by rw [HE.out]; rfl), HB.out⟩

/-- '[]byte(s)': a new row of the string's bytes. -/
theorem bytes_new : ∃ (cap : World → ByteArray → Nat) (row : World → ByteArray → Array Value) (fr : World → ByteArray → Nat × Nat),
    (∀ (W : World) (s : ByteArray), Sem.run Try.prog (convert 9 23 (.string s)) W = .ok (.slice (some ⟨W.heap.size, 0, none⟩) s.size (cap W s)) (W.drew.alloc (.cells (row W s) 5 (fr W s)))) ∧
    (∀ W s, s.size ≤ cap W s) ∧ ∀ W (k : Key) (j : Nat) c, k[j]? = some c → (row W (strB k))[j]? = some (.int .u8 (c.toNat : Int)) := by
  refine ⟨fun W s => grownCap W s.size 0 5, fun W s => bytesRow s (grownCap W s.size 0 5), _, fun W s => run_bytes_of_string W 9 23 5 s Try.underlying9 Try.underlying23 Try.underlying5, fun W s => ?_, fun W k j c hj => ?_⟩
  · exact grownCap_ge _ _ _ _
  · have hl := (List.getElem?_eq_some_iff.1 hj).1
    have e : (strB k).data.toList = k := by simp [strB]
    have e2 : (strB k).data.size = k.length := by simp [strB]
    unfold bytesRow
    rw [Array.getElem?_append_left (by simp [e2]; exact hl), Array.getElem?_map, ← Array.getElem?_toList, e, hj]
    rfl
theorem str_size (k : Key) : (strB k).size = k.length := by simp [strB, ByteArray.size]
/-- A key in a block of its own, whatever stands behind it. -/
theorem key_block {w : World} {b : Nat} {cur : Array Value} {fr : Nat × Nat} {k : Key} (h : w.heap[b]? = some (.cells cur 5 fr)) (hc : ∀ (j : Nat) c, k[j]? = some c → cur[j]? = some (.int .u8 (c.toNat : Int))) (n c : Nat) (hn : k.length = n) (hcap : n ≤ c) (hs : n ≤ 140737488355328) : KeyAt w (.slice (some ⟨b, 0, none⟩) n c) k := by
  subst hn
  refine ⟨⟨_, c, rfl, fun j x hj => ⟨b, 0, rfl, (Array.getElem?_eq_some_iff.1 h).1, ?_⟩, hcap, fun h => by cases h⟩, hs⟩
  rw [Nat.zero_add]
  simp only [World.cell?, h]
  exact hc j x hj

theorem of_end (w : World) (x y : Key) (l1 c1 l2 c2 : Nat) (r1 r2 : Array Value) (f1 f2 : Nat × Nat) (h1 : x.length = l1) (h2 : y.length = l2) (k1 : l1 ≤ c1) (k2 : l2 ≤ c2) (hx : l1 ≤ 100) (hy : l2 ≤ 100) (m1 : ∀ (j : Nat) c, x[j]? = some c → r1[j]? = some (.int .u8 (c.toNat : Int))) (m2 : ∀ (j : Nat) c, y[j]? = some c → r2[j]? = some (.int .u8 (c.toNat : Int))) :
    Box (((w.alloc (.cells #[.slice (some ⟨w.heap.size + 1, 0, none⟩) l1 c1, .slice (some ⟨w.heap.size + 1 + 1, 0, none⟩) l2 c2, .bool false] 36)).alloc (.cells r1 5 f1)).alloc (.cells r2 5 f2)).drew.drew w.heap.size (.slice (some ⟨w.heap.size + 1, 0, none⟩) l1 c1) (.slice (some ⟨w.heap.size + 1 + 1, 0, none⟩) l2 c2) (.bool false) ∧
    RangeAt (((w.alloc (.cells #[.slice (some ⟨w.heap.size + 1, 0, none⟩) l1 c1, .slice (some ⟨w.heap.size + 1 + 1, 0, none⟩) l2 c2, .bool false] 36)).alloc (.cells r1 5 f1)).alloc (.cells r2 5 f2)).drew.drew (.agg #[.slice (some ⟨w.heap.size + 1, 0, none⟩) l1 c1, .slice (some ⟨w.heap.size + 1 + 1, 0, none⟩) l2 c2, .bool false]) ⟨x, y, false⟩ ∧
    Below w.heap.size w (((w.alloc (.cells #[.slice (some ⟨w.heap.size + 1, 0, none⟩) l1 c1, .slice (some ⟨w.heap.size + 1 + 1, 0, none⟩) l2 c2, .bool false] 36)).alloc (.cells r1 5 f1)).alloc (.cells r2 5 f2)).drew.drew := by
  obtain ⟨V, hV⟩ : ∃ V, V = w.alloc (.cells #[.slice (some ⟨w.heap.size + 1, 0, none⟩) l1 c1, .slice (some ⟨w.heap.size + 1 + 1, 0, none⟩) l2 c2, .bool false] 36) := ⟨_, rfl⟩
  have hVs : V.heap.size = w.heap.size + 1 := by rw [hV]; simp
  have hb : Below V.heap.size V ((V.alloc (.cells r1 5 f1)).alloc (.cells r2 5 f2)).drew.drew := (((below_new V _).alloc (by simp) _).drew).drew
  have hbx : Box V w.heap.size (.slice (some ⟨w.heap.size + 1, 0, none⟩) l1 c1) (.slice (some ⟨w.heap.size + 1 + 1, 0, none⟩) l2 c2) (.bool false) := by rw [hV]; exact Box.new _ _ _ _
  have e1 : ((V.alloc (.cells r1 5 f1)).alloc (.cells r2 5 f2)).heap[w.heap.size + 1]? = some (.cells r1 5 f1) := by
    rw [Below.heap_alloc _ _ _ (by simp; omega), ← hVs]; exact heap_alloc_last _ _
  have e2 : ((V.alloc (.cells r1 5 f1)).alloc (.cells r2 5 f2)).heap[w.heap.size + 1 + 1]? = some (.cells r2 5 f2) := by
    have : (V.alloc (.cells r1 5 f1)).heap.size = w.heap.size + 1 + 1 := by simp; omega
    rw [← this]; exact heap_alloc_last _ _
  rw [← hV]
  have hb0 : Below w.heap.size w V := by rw [hV]; exact below_new _ _
  refine ⟨hbx.here hb, ⟨_, _, rfl, ?_, ?_⟩, hb0.trans (hb.mono hb0.size)⟩
  · exact (key_block e1 m1 l1 c1 h1 k1 (by omega)).here (((Below.refl _ _).drew).drew)
  · exact (key_block e2 m2 l2 c2 h2 k2 (by omega)).here (((Below.refl _ _).drew).drew)

set_option maxRecDepth 100000 in
theorem of_any (w : World) (x y : Key) (sx sy : ByteArray) (hsx : sx = strB x) (hsy : sy = strB y) (hx : x.length ≤ 100) (hy : y.length ≤ 100) :
    Calls Try.prog 27 #[.string sx, .string sy] w fun e w' => ∃ v, e = .returned v ∧ RangeAt w' v ⟨x, y, false⟩ ∧ Below w.heap.size w w' := by
  obtain ⟨cap, row, fr, hcv, hcap, hrow⟩ := bytes_new
  have HCAP : Hid _ := hcap
  have HROW : Hid _ := hrow
  have HSX : Hid (sx = strB x) := hsx
  have HSY : Hid (sy = strB y) := hsy
  have HZX : Hid (x.length = sx.size) := by rw [hsx, str_size]; rfl
  have HZY : Hid (y.length = sy.size) := by rw [hsy, str_size]; rfl
  clear hsx hsy hcap hrow
  go_enter Try.func27, Try.ntmps27
  go_wp2
  obtain ⟨e1, e2, e3⟩ := of_end w x y sx.size (cap (w.alloc (.cells #[.slice none 0 0, .slice none 0 0, .bool false] 36)) sx) sy.size (cap ((w.alloc (.cells #[.slice none 0 0, .slice none 0 0, .bool false] 36)).alloc (.cells (row (w.alloc (.cells #[.slice none 0 0, .slice none 0 0, .bool false] 36)) sx) 5 (fr (w.alloc (.cells #[.slice none 0 0, .slice none 0 0, .bool false] 36)) sx))).drew sy)
    (row (w.alloc (.cells #[.slice none 0 0, .slice none 0 0, .bool false] 36)) sx) (row ((w.alloc (.cells #[.slice none 0 0, .slice none 0 0, .bool false] 36)).alloc (.cells (row (w.alloc (.cells #[.slice none 0 0, .slice none 0 0, .bool false] 36)) sx) 5 (fr (w.alloc (.cells #[.slice none 0 0, .slice none 0 0, .bool false] 36)) sx))).drew sy)
    (fr (w.alloc (.cells #[.slice none 0 0, .slice none 0 0, .bool false] 36)) sx) (fr ((w.alloc (.cells #[.slice none 0 0, .slice none 0 0, .bool false] 36)).alloc (.cells (row (w.alloc (.cells #[.slice none 0 0, .slice none 0 0, .bool false] 36)) sx) 5 (fr (w.alloc (.cells #[.slice none 0 0, .slice none 0 0, .bool false] 36)) sx))).drew sy)
    HZX.out HZY.out (HCAP.out _ _) (HCAP.out _ _) (by have := HZX.out; omega) (by have := HZY.out; omega) (fun j c h => by rw [HSX.out]; exact HROW.out _ x j c h) (fun j c h => by rw [HSY.out]; exact HROW.out _ y j c h)
  exact bodyPost_ret (ret_box rfl rfl e1) rfl ⟨_, rfl, e2, e3⟩

set_option maxHeartbeats 800000 in
set_option maxRecDepth 100000 in
theorem between_any {w : World} {u v : Value} {x y : Key} (hu : KeyAt w u x) (hv : KeyAt w v y) :
    Calls Try.prog 25 #[u, v] w fun e w' => Below w.heap.size w w' ∧ ((x < y ∧ ∃ k, e = .returned (.tuple #[k, .int .i64 0]) ∧ NewKey w.heap.size w' k (midK x y)) ∨ (¬ x < y ∧ e = .returned (.tuple #[.slice none 0 0, .int .i64 41]))) := by
  have HU : Hid (KeyAt w u x) := hu
  have HV : Hid (KeyAt w v y) := hv
  obtain ⟨a1, c1, rfl, _⟩ := hu.is
  obtain ⟨a2, c2, rfl, hb2, hc2, hn2⟩ := hv.is
  have hsy := hv.short
  have HB2 : Hid (BytesAt w.heap.size w a2 y) := hb2
  clear hu hv hb2
  by_cases hlt : x < y
  · have hz : ¬ 0 ≤ cmpK x y := fun h => by have := cmpK_ge.1 h; grind
    have hz2 : cmpK x y < 0 := cmpK_lt.2 hlt
    have hml := midK_length x y hlt
    have hcy : comK x y < y.length := by
      have := (lt_iff_com x y).1 hlt
      rcases this with ⟨_, h⟩ | ⟨_, h, _⟩ <;> exact h
    obtain ⟨m, hm⟩ : ∃ m, m = comK x y := ⟨_, rfl⟩
    have HCM : Hid (comK x y = m) := hm.symm
    rw [← hm] at hml hcy
    clear hm
    have hcc : ((m : Int) + 1) ≤ (c2 : Int) := by omega
    have HMID : Hid (midK x y = y.take (m + 1)) := by rw [← HCM.out]; rfl
    go_enter Try.func25, Try.ntmps25
    go_wp2_with fail
    refine (compare_key HU.out HV.out).mono ?_
    rintro e _ ⟨rfl, q, rfl⟩
    go_wp2_with fail
    refine (common_key (HU.out.draws q) (HV.out.draws q)).mono ?_
    rintro e _ ⟨rfl, q2, rfl⟩
    rw [HCM.out]
    go_wp2_with fail
    refine (anew_any (w := w.drewN (q + q2)) (k := midK x y) ⟨⟨a2, c2, by rw [hml], ?_, by omega, hn2⟩, by omega⟩).mono ?_
    · rw [HMID.out]
      exact (HB2.out.here (below_draws (Below.refl _ _) _)).take _
    rintro e w3 ⟨k, rfl, hk, hb3⟩
    have HKN : Hid (NewKey w.heap.size w3 k (midK x y)) := hk
    have HB3 : Hid (Below w.heap.size w w3) := (below_draws (Below.refl _ _) _).trans hb3
    clear hk hb3
    go_wp2
    go_ret2
    exact ⟨HB3.out, .inl ⟨hlt, k, rfl, HKN.out⟩⟩
  · have hz : 0 ≤ cmpK x y := cmpK_ge.2 (by grind)
    go_enter Try.func25, Try.ntmps25
    go_wp2_with (go_at_call 22; refine (compare_key HU.out HV.out).mono ?_; rintro e _ ⟨rfl, q, rfl⟩)
    go_ret2
    exact ⟨below_draws (Below.refl _ _) q, .inr ⟨hlt, rfl⟩⟩
end Go.Proofs.Ytphohkchffcjeaa
