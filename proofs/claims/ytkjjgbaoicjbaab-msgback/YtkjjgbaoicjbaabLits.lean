/- Bytes as strings. -/
import Derived.Test.YtkjjgbaoicjbaabDecode
import Derived.Laws.IdiomStrings
namespace Go.Proofs.Ytkjjgbaoicjbaab
open Go.RowKit

/-- Bytes as a string. -/
def strB (bs : List UInt8) : ByteArray := ⟨bs.toArray⟩
theorem strB_nums (bs : List UInt8) : strOfNums (bs.map fun c => (c.toNat : Int)) = strB bs := by
  have e : (bs.map fun c => (c.toNat : Int)).map (fun n => UInt8.ofNat n.toNat) = bs := by
    rw [List.map_map]
    refine (List.map_congr_left (g := id) fun c _ => ?_).trans (List.map_id _)
    simp
  rw [strOfNums, e]
  rfl
theorem strB_inj {a b : List UInt8} (h : strB a = strB b) : a = b := by
  have := congrArg (fun x => x.data.toList) h
  simpa [strB] using this
theorem strB_eq (a b : List UInt8) : ((strB a).toList == (strB b).toList) = decide (a = b) := by
  by_cases h : a = b
  · subst h; simp
  · rw [beq_eq_false_iff_ne.2 ?_]
    · simp [h]
    · rw [ByteArray.toList_eq, ByteArray.toList_eq]
      intro e
      exact h (by simpa [strB] using e)
theorem conv_any {B : Nat} {w : World} {a : Option Addr} {bs : List UInt8} (n cap : Nat) (hb : BytesAt B w a bs) (hn : bs.length = n) : (convert 23 9 (.slice a n cap)).run Try.prog w = .ok (.string (strB bs)) w := by
  cases a with
  | none =>
    have h0 : bs = [] := by
      cases bs with
      | nil => rfl
      | cons b r => obtain ⟨_, _, e, _⟩ := hb 0 b rfl; cases e
    subst h0
    exact run_convert_bytes_nil w 23 5 Try.underlying23 Try.underlying5 n cap 9 Try.underlying9
  | some ad =>
    have hl : (loadCells ad n).run Try.prog w = .ok ((bs.map fun c => (c.toNat : Int)).map (Value.int .u8)).toArray w := by
      have := run_loadCells_list (P := Try.prog) w ad ((bs.map fun c => (c.toNat : Int)).map (Value.int .u8)) (fun j v hj => by
        rw [List.map_map, List.getElem?_map] at hj
        cases e : bs[j]? with
        | none => rw [e] at hj; cases hj
        | some c =>
          rw [e] at hj
          obtain ⟨g, off, e1, _, hc⟩ := hb j c e
          cases e1
          rw [add_at, hc]
          simpa using hj)
      simpa [hn] using this
    rw [run_convert_bytes_string w 23 9 5 _ n cap Try.underlying23 Try.underlying5 Try.underlying9, run_bytesToString w _ n cap _ hl, foldl_push_bytes, ← strB_nums]
    simp [strOfNums, ByteArray.empty, ByteArray.emptyWithCapacity]
    rfl
theorem conv_key {w : World} {v : Value} {k : Key} (h : KeyAt w v k) : (convert 23 9 v).run Try.prog w = .ok (.string (strB k)) w := by
  obtain ⟨⟨a, c, rfl, hb, _⟩, _⟩ := h
  exact conv_any _ _ hb rfl

/-- '[]byte(s)': a new row of the string's bytes. -/
theorem bytes_new : ∃ (cap : World → ByteArray → Nat) (row : World → ByteArray → Array Value) (fr : World → ByteArray → Nat × Nat),
    (∀ (W : World) (s : ByteArray), Sem.run Try.prog (convert 9 23 (.string s)) W = .ok (.slice (some ⟨W.heap.size, 0, none⟩) s.size (cap W s)) (W.drew.alloc (.cells (row W s) 5 (fr W s)))) ∧
    (∀ W s, s.size ≤ cap W s) ∧ ∀ W (k : Key) (j : Nat) c, k[j]? = some c → (row W (strB k))[j]? = some (.int .u8 (c.toNat : Int)) := by
  refine ⟨fun W s => grownCap W s.size 0 5, fun W s => bytesRow s (grownCap W s.size 0 5), _, fun W s => run_bytes_of_string W 9 23 5 s Try.underlying9 Try.underlying23 Try.underlying5, fun W s => ?_, fun W k j c hj => ?_⟩
  · exact grownCap_ge _ _ _ _
  · have hl := (List.getElem?_eq_some_iff.1 hj).1
    have e : (strB k).data.toList = k := by simp [strB]
    have e2 : (strB k).data.size = k.length := by simp [strB]
    unfold bytesRow
    rw [Array.getElem?_append_left (by simp [e2]; exact hl), Array.getElem?_map, ← Array.getElem?_toList, e, hj]
    rfl
theorem str_size (k : Key) : (strB k).size = k.length := by simp [strB, ByteArray.size]
/-- A key in a block of its own, whatever stands behind it. -/
theorem key_block {w : World} {b : Nat} {cur : Array Value} {fr : Nat × Nat} {k : Key} (h : w.heap[b]? = some (.cells cur 5 fr)) (hc : ∀ (j : Nat) c, k[j]? = some c → cur[j]? = some (.int .u8 (c.toNat : Int))) (n c : Nat) (hn : k.length = n) (hcap : n ≤ c) (hs : n ≤ 140737488355328) : KeyAt w (.slice (some ⟨b, 0, none⟩) n c) k := by
  subst hn
  refine ⟨⟨_, c, rfl, fun j x hj => ⟨b, 0, rfl, (Array.getElem?_eq_some_iff.1 h).1, ?_⟩, hcap, fun h => by cases h⟩, hs⟩
  rw [Nat.zero_add]
  simp only [World.cell?, h]
  exact hc j x hj

theorem conv_new (W : World) (k : Key) (s : ByteArray) (hs : s = strB k) : ∃ (W' : World) (cap : Nat) (cur : Array Value) (fr : Nat × Nat), Sem.run Try.prog (convert 9 23 (.string s)) W = .ok (.slice (some ⟨W.heap.size, 0, none⟩) k.length cap) W' ∧
    W'.heap[W.heap.size]? = some (.cells cur 5 fr) ∧ (∀ (j : Nat) c, k[j]? = some c → cur[j]? = some (.int .u8 (c.toNat : Int))) ∧ k.length ≤ cap ∧ Below W.heap.size W W' := by
  obtain ⟨cap, row, fr, hcv, hcap, hrow⟩ := bytes_new
  subst hs
  refine ⟨_, cap W (strB k), row W (strB k), fr W (strB k), ?_, heap_alloc_last W.drew _, fun j c h => hrow W k j c h, ?_, ?_⟩
  · rw [hcv, str_size]
  · have := hcap W (strB k); rwa [str_size] at this
  · exact (Below.refl _ _).drew.alloc (Nat.le_refl _) _
/-- What a message of the law's own is. -/
structure LitPost (w : World) (m : Ms) (r : Ending) (w' : World) : Prop where
  is : ∃ y : Mt, r = .returned y.val ∧ y.m = m ∧ y.Ok w'.heap.size w' ∧ Below w.heap.size w w'
theorem below_lit {w W1 : World} {o : Obj} (b : Below (w.alloc o).heap.size (w.alloc o) W1) : Below w.heap.size w W1 := (below_new w o).trans (b.mono (below_new w o).size)
theorem box_lit {w W1 : World} (b : Below (w.alloc (.cells #[.int .u64 0, .int .i64 0, .slice none 0 0, .slice none 0 0, .slice none 0 0] 38)).heap.size (w.alloc (.cells #[.int .u64 0, .int .i64 0, .slice none 0 0, .slice none 0 0, .slice none 0 0] 38)) W1) : MBox W1 w.heap.size zeroM := MBox.here (e := zeroM) ⟨heap_alloc_last w _⟩ b
theorem key_put {w W : World} {b : Nat} {x : Mt} (e : Mt) (hm : MBox W b x) (hw : w.heap.size ≤ b) {g : Nat} {cur : Array Value} {fr : Nat × Nat} {k : Key} {cap : Nat} (h : W.heap[g]? = some (.cells cur 5 fr)) (hc : ∀ (j : Nat) c, k[j]? = some c → cur[j]? = some (.int .u8 (c.toNat : Int))) (hcap : k.length ≤ cap) (hs : k.length ≤ 100) :
    KeyIn (put5 W b e).heap.size (put5 W b e) (.slice (some ⟨g, 0, none⟩) k.length cap) k :=
  (key_block ((put5_keep e hm hw).typ _ _ _ _ (by decide) h) hc _ cap rfl hcap (by omega)).in

set_option maxHeartbeats 200000 in
set_option maxRecDepth 100000 in
theorem gone_lit (w : World) (st : Nat) (lo hi : Key) (sl sh : ByteArray) (h1 : sl = strB lo) (h2 : sh = strB hi) (hst : st < 18446744073709551616) (hl1 : lo.length ≤ 100) (hl2 : hi.length ≤ 100) :
    Calls Try.prog 13 #[.int .u64 st, .string sl, .string sh] w fun r w' => LitPost w ⟨st, 3, lo, hi, []⟩ r w' := by
  obtain ⟨W1, c1, cu1, fr1, e1, x1, y1, z1, b1⟩ := conv_new (w.alloc (.cells #[.int .u64 0, .int .i64 0, .slice none 0 0, .slice none 0 0, .slice none 0 0] 38)) lo sl h1
  obtain ⟨W2, c2, cu2, fr2, e2, x2, y2, z2, b2⟩ := conv_new W1 hi sh h2
  have hsz : (w.alloc (.cells #[.int .u64 0, .int .i64 0, .slice none 0 0, .slice none 0 0, .slice none 0 0] 38)).heap.size = w.heap.size + 1 := by simp
  have HZ1 : MBox W1 w.heap.size zeroM := box_lit b1
  have HZ : Hid (MBox W2 w.heap.size zeroM) := HZ1.here b2
  rw [hsz] at x1 e1
  have HX1 : Hid (W2.heap[w.heap.size + 1]? = some (.cells cu1 5 fr1) ∧ (∀ (j : Nat) c, lo[j]? = some c → cu1[j]? = some (.int .u8 (c.toNat : Int))) ∧ lo.length ≤ c1) := ⟨by rw [b2.block _ (Array.getElem?_eq_some_iff.1 x1).1]; exact x1, y1, z1⟩
  have HX2 : Hid (W2.heap[W1.heap.size]? = some (.cells cu2 5 fr2) ∧ (∀ (j : Nat) c, hi[j]? = some c → cu2[j]? = some (.int .u8 (c.toNat : Int))) ∧ hi.length ≤ c2) := ⟨x2, y2, z2⟩
  have HB1 : Below w.heap.size w W1 := below_lit b1
  have HB : Hid (Below w.heap.size w W2) := HB1.trans (b2.mono HB1.size)
  obtain ⟨q0, q1, q2, q3, q4⟩ := HZ.out.cells
  have p0 := HZ.out.open 0
  have p1 := HZ.out.open 1
  have p2 := HZ.out.open 2
  have p3 := HZ.out.open 3
  have p4 := HZ.out.open 4
  clear h1 h2 x1 x2 y1 y2 z1 z2 b1 b2 HZ1 HB1 hsz
  have HFI : Hid (LitPost w ⟨st, 3, lo, hi, []⟩ (.returned (Mt.val ⟨.slice (some ⟨w.heap.size + 1, 0, none⟩) lo.length c1, .slice (some ⟨W1.heap.size, 0, none⟩) hi.length c2, .slice none 0 0, ⟨st, 3, lo, hi, []⟩⟩)) (put5 W2 w.heap.size ⟨.slice (some ⟨w.heap.size + 1, 0, none⟩) lo.length c1, .slice (some ⟨W1.heap.size, 0, none⟩) hi.length c2, .slice none 0 0, ⟨st, 3, lo, hi, []⟩⟩)) := ⟨_, rfl, rfl, ⟨key_put _ HZ.out (Nat.le_refl _) HX1.out.1 HX1.out.2.1 HX1.out.2.2 hl1, key_put _ HZ.out (Nat.le_refl _) HX2.out.1 HX2.out.2.1 HX2.out.2.2 hl2, KeyIn.nil' _ _, hst, by simp⟩, HB.out.trans (put5_keep _ HZ.out (Nat.le_refl _)).low⟩
  clear hst hl1 hl2
  go_enter Try.func13, Try.ntmps13
  go_wp2_with fail
  exact bodyPost_ret (ret_msg rfl rfl (put5_box (e := ⟨.slice (some ⟨w.heap.size + 1, 0, none⟩) lo.length c1, .slice (some ⟨W1.heap.size, 0, none⟩) hi.length c2, .slice none 0 0, ⟨st, 3, lo, hi, []⟩⟩) _ HZ.out)) rfl HFI.out

set_option maxHeartbeats 200000 in
set_option maxRecDepth 100000 in
theorem put_lit (w : World) (st : Nat) (lo hi : Key) (sl sh : ByteArray) (h1 : sl = strB lo) (h2 : sh = strB hi) (hst : st < 18446744073709551616) (hl1 : lo.length ≤ 100) (hl2 : hi.length ≤ 100) :
    Calls Try.prog 14 #[.int .u64 st, .string sl, .string sh] w fun r w' => LitPost w ⟨st, 1, lo, [], hi⟩ r w' := by
  obtain ⟨W1, c1, cu1, fr1, e1, x1, y1, z1, b1⟩ := conv_new (w.alloc (.cells #[.int .u64 0, .int .i64 0, .slice none 0 0, .slice none 0 0, .slice none 0 0] 38)) lo sl h1
  obtain ⟨W2, c2, cu2, fr2, e2, x2, y2, z2, b2⟩ := conv_new W1 hi sh h2
  have hsz : (w.alloc (.cells #[.int .u64 0, .int .i64 0, .slice none 0 0, .slice none 0 0, .slice none 0 0] 38)).heap.size = w.heap.size + 1 := by simp
  have HZ1 : MBox W1 w.heap.size zeroM := box_lit b1
  have HZ : Hid (MBox W2 w.heap.size zeroM) := HZ1.here b2
  rw [hsz] at x1 e1
  have HX1 : Hid (W2.heap[w.heap.size + 1]? = some (.cells cu1 5 fr1) ∧ (∀ (j : Nat) c, lo[j]? = some c → cu1[j]? = some (.int .u8 (c.toNat : Int))) ∧ lo.length ≤ c1) := ⟨by rw [b2.block _ (Array.getElem?_eq_some_iff.1 x1).1]; exact x1, y1, z1⟩
  have HX2 : Hid (W2.heap[W1.heap.size]? = some (.cells cu2 5 fr2) ∧ (∀ (j : Nat) c, hi[j]? = some c → cu2[j]? = some (.int .u8 (c.toNat : Int))) ∧ hi.length ≤ c2) := ⟨x2, y2, z2⟩
  have HB1 : Below w.heap.size w W1 := below_lit b1
  have HB : Hid (Below w.heap.size w W2) := HB1.trans (b2.mono HB1.size)
  obtain ⟨q0, q1, q2, q3, q4⟩ := HZ.out.cells
  have p0 := HZ.out.open 0
  have p1 := HZ.out.open 1
  have p2 := HZ.out.open 2
  have p3 := HZ.out.open 3
  have p4 := HZ.out.open 4
  clear h1 h2 x1 x2 y1 y2 z1 z2 b1 b2 HZ1 HB1 hsz
  have HFI : Hid (LitPost w ⟨st, 1, lo, [], hi⟩ (.returned (Mt.val ⟨.slice (some ⟨w.heap.size + 1, 0, none⟩) lo.length c1, .slice none 0 0, .slice (some ⟨W1.heap.size, 0, none⟩) hi.length c2, ⟨st, 1, lo, [], hi⟩⟩)) (put5 W2 w.heap.size ⟨.slice (some ⟨w.heap.size + 1, 0, none⟩) lo.length c1, .slice none 0 0, .slice (some ⟨W1.heap.size, 0, none⟩) hi.length c2, ⟨st, 1, lo, [], hi⟩⟩)) := ⟨_, rfl, rfl, ⟨key_put _ HZ.out (Nat.le_refl _) HX1.out.1 HX1.out.2.1 HX1.out.2.2 hl1, KeyIn.nil' _ _, key_put _ HZ.out (Nat.le_refl _) HX2.out.1 HX2.out.2.1 HX2.out.2.2 hl2, hst, by simp⟩, HB.out.trans (put5_keep _ HZ.out (Nat.le_refl _)).low⟩
  clear hst hl1 hl2
  go_enter Try.func14, Try.ntmps14
  go_wp2_with fail
  exact bodyPost_ret (ret_msg rfl rfl (put5_box (e := ⟨.slice (some ⟨w.heap.size + 1, 0, none⟩) lo.length c1, .slice none 0 0, .slice (some ⟨W1.heap.size, 0, none⟩) hi.length c2, ⟨st, 1, lo, [], hi⟩⟩) _ HZ.out)) rfl HFI.out

set_option maxHeartbeats 200000 in
set_option maxRecDepth 100000 in
theorem del_lit (w : World) (st : Nat) (lo : Key) (sl : ByteArray) (h1 : sl = strB lo) (hst : st < 18446744073709551616) (hl1 : lo.length ≤ 100) :
    Calls Try.prog 15 #[.int .u64 st, .string sl] w fun r w' => LitPost w ⟨st, 2, lo, [], []⟩ r w' := by
  obtain ⟨W1, c1, cu1, fr1, e1, x1, y1, z1, b1⟩ := conv_new (w.alloc (.cells #[.int .u64 0, .int .i64 0, .slice none 0 0, .slice none 0 0, .slice none 0 0] 38)) lo sl h1
  have hsz : (w.alloc (.cells #[.int .u64 0, .int .i64 0, .slice none 0 0, .slice none 0 0, .slice none 0 0] 38)).heap.size = w.heap.size + 1 := by simp
  have HZ : Hid (MBox W1 w.heap.size zeroM) := box_lit b1
  rw [hsz] at x1 e1
  have HX1 : Hid (W1.heap[w.heap.size + 1]? = some (.cells cu1 5 fr1) ∧ (∀ (j : Nat) c, lo[j]? = some c → cu1[j]? = some (.int .u8 (c.toNat : Int))) ∧ lo.length ≤ c1) := ⟨x1, y1, z1⟩
  have HB : Hid (Below w.heap.size w W1) := below_lit b1
  obtain ⟨q0, q1, q2, q3, q4⟩ := HZ.out.cells
  have p0 := HZ.out.open 0
  have p1 := HZ.out.open 1
  have p2 := HZ.out.open 2
  have p3 := HZ.out.open 3
  have p4 := HZ.out.open 4
  clear h1 x1 y1 z1 b1 hsz
  have HFI : Hid (LitPost w ⟨st, 2, lo, [], []⟩ (.returned (Mt.val ⟨.slice (some ⟨w.heap.size + 1, 0, none⟩) lo.length c1, .slice none 0 0, .slice none 0 0, ⟨st, 2, lo, [], []⟩⟩)) (put5 W1 w.heap.size ⟨.slice (some ⟨w.heap.size + 1, 0, none⟩) lo.length c1, .slice none 0 0, .slice none 0 0, ⟨st, 2, lo, [], []⟩⟩)) := ⟨_, rfl, rfl, ⟨key_put _ HZ.out (Nat.le_refl _) HX1.out.1 HX1.out.2.1 HX1.out.2.2 hl1, KeyIn.nil' _ _, KeyIn.nil' _ _, hst, by simp⟩, HB.out.trans (put5_keep _ HZ.out (Nat.le_refl _)).low⟩
  clear hst hl1
  go_enter Try.func15, Try.ntmps15
  go_wp2_with fail
  exact bodyPost_ret (ret_msg rfl rfl (put5_box (e := ⟨.slice (some ⟨w.heap.size + 1, 0, none⟩) lo.length c1, .slice none 0 0, .slice none 0 0, ⟨st, 2, lo, [], []⟩⟩) _ HZ.out)) rfl HFI.out
end Go.Proofs.Ytkjjgbaoicjbaab
