/- The chapter's example goes there and back: the law's own function 'shown' answers true. -/
import Derived.Test.YtgifnaahahfhbaaSame
namespace Go.Proofs.Ytgifnaahahfhbaa
open Go.RowKit

theorem const_any (W : World) (m : Nat) (C : Array Value) (n c : Nat) (h : W.heap.size = m) : Sem.run Try.prog (convert 39 39 (.slice (some ⟨m, 0, none⟩) n c)) (W.alloc (.cells C 5)) = .ok (.slice (some ⟨m, 0, none⟩) n c) (W.alloc (.cells C 5 (C.size, C.size + 1))) := by
  subst h
  exact Lib.run_convert_bytes_const (P := Try.prog) W 39 5 C n c Try.underlying39 Try.underlying5
def lits (k : Key) : Array Value := (k.map encB).toArray
theorem lits_at (k : Key) (j : Nat) (c : UInt8) (h : k[j]? = some c) : (lits k)[j]? = some (.int .u8 (c.toNat : Int)) := by
  simp [lits, encB, h]
/-- Two literals, one behind the other. -/
theorem two_lits (w : World) (x y : Key) (f g : Nat × Nat) (C D : Array Value) (hC : C = lits x) (hD : D = lits y) (hx : x.length ≤ 100) (hy : y.length ≤ 100) (n m : Nat) (hn : x.length = n) (hm : y.length = m) :
    KeyAt ((w.alloc (.cells C 5 f)).alloc (.cells D 5 g)) (.slice (some ⟨w.heap.size, 0, none⟩) n n) x ∧ KeyAt ((w.alloc (.cells C 5 f)).alloc (.cells D 5 g)) (.slice (some ⟨w.heap.size + 1, 0, none⟩) m m) y ∧ Below w.heap.size w ((w.alloc (.cells C 5 f)).alloc (.cells D 5 g)) := by
  subst hC hD
  have e1 : (w.alloc (.cells (lits x) 5 f)).heap[w.heap.size]? = some (.cells (lits x) 5 f) := heap_alloc_last _ _
  have e2 : ((w.alloc (.cells (lits x) 5 f)).alloc (.cells (lits y) 5 g)).heap[w.heap.size + 1]? = some (.cells (lits y) 5 g) := by
    have : (w.alloc (.cells (lits x) 5 f)).heap.size = w.heap.size + 1 := by simp
    rw [← this]; exact heap_alloc_last _ _
  exact ⟨(key_block e1 (lits_at x) n n hn (Nat.le_refl _) (by omega)).here (below_new _ _), key_block e2 (lits_at y) m m hm (Nat.le_refl _) (by omega), (below_new w _).alloc (by simp) _⟩

/-- A list that is written out. -/
theorem list_lits (w : World) (L : List It) (C : Array Value) (n : Nat) (hC : C = (flat L).toArray) (hn : L.length = n) (h5 : n ≤ 100) (hok : ∀ e ∈ L, e.Ok w.heap.size w) : ListAt (w.alloc (.cells C 47)).heap.size (w.alloc (.cells C 47)) (.slice (some ⟨w.heap.size, 0, none⟩) n n) L := by
  subst hC hn
  refine ⟨⟨_, _, rfl, Nat.le_refl _, fun h => (by cases h), fun j u hj => ⟨_, 0, rfl, by simp, ?_⟩⟩, by omega, fun e he => ((hok e he).below (below_new _ _)).mono (by simp)⟩
  rw [Nat.zero_add, row_cell (heap_alloc_last w _)]
  simpa using hj
def twoE : List En := [⟨[97, 98], [49]⟩, ⟨[97, 98, 99], [50, 51]⟩]
def twoB : Key := [0, 2, 0, 0, 0, 2, 0, 1, 97, 98, 49, 0, 2, 0, 1, 0, 2, 99, 50, 51]
theorem twoB_is : encE twoE = twoB := by decide
theorem two_ok : checkE 512 twoE = 0 := by decide

set_option maxHeartbeats 1600000 in
set_option maxRecDepth 100000 in
theorem two_any (w : World) : Calls Try.prog 29 #[] w fun e w' => ∃ v L, e = .returned v ∧ L.map It.e = twoE ∧ ListAt w'.heap.size w' v L ∧ Below w.heap.size w w' := by
  have hcv := const_any
  go_enter Try.func29, Try.ntmps29
  go_wp2_with fail
  go_ret
  obtain ⟨q1, q2, q3⟩ := two_lits w [97, 98] [49] (2, 3) (1, 2) #[.int .u8 97, .int .u8 98] #[.int .u8 49] rfl rfl (by decide) (by decide) 2 1 rfl rfl
  obtain ⟨W2, hW2⟩ : ∃ W2, W2 = (w.alloc (.cells #[.int .u8 97, .int .u8 98] 5 (2, 3))).alloc (.cells #[.int .u8 49] 5 (1, 2)) := ⟨_, rfl⟩
  rw [← hW2] at q1 q2 q3 ⊢
  have hs2 : W2.heap.size = w.heap.size + 1 + 1 := by rw [hW2]; simp
  obtain ⟨p1, p2, p3⟩ := two_lits W2 [97, 98, 99] [50, 51] (3, 4) (2, 3) #[.int .u8 97, .int .u8 98, .int .u8 99] #[.int .u8 50, .int .u8 51] rfl rfl (by decide) (by decide) 3 2 rfl rfl
  obtain ⟨W4, hW4⟩ : ∃ W4, W4 = (W2.alloc (.cells #[.int .u8 97, .int .u8 98, .int .u8 99] 5 (3, 4))).alloc (.cells #[.int .u8 50, .int .u8 51] 5 (2, 3)) := ⟨_, rfl⟩
  rw [← hW4] at p1 p2 p3 ⊢
  have hs4 : W4.heap.size = w.heap.size + 1 + 1 + 1 + 1 := by rw [hW4]; simp [hs2]
  rw [← hs4, ← hs2]
  refine ⟨_, [⟨.slice (some ⟨w.heap.size, 0, none⟩) 2 2, .slice (some ⟨w.heap.size + 1, 0, none⟩) 1 1, ⟨[97, 98], [49]⟩⟩, ⟨.slice (some ⟨W2.heap.size, 0, none⟩) 3 3, .slice (some ⟨W2.heap.size + 1, 0, none⟩) 2 2, ⟨[97, 98, 99], [50, 51]⟩⟩], rfl, rfl, list_lits W4 _ _ 2 rfl rfl (by decide) ?_, ?_⟩
  · intro e he
    simp only [List.mem_cons, List.not_mem_nil, or_false] at he
    rcases he with rfl | rfl
    · exact ⟨(q1.here p3).in, (q2.here p3).in⟩
    · exact ⟨p1.in, p2.in⟩
  · exact (q3.trans (p3.mono q3.size)).trans ((below_new W4 _).mono (Nat.le_trans q3.size p3.size))

set_option maxHeartbeats 1600000 in
set_option maxRecDepth 100000 in
theorem shown_any (w : World) : Calls Try.prog 9 #[] w fun e w' => e = .returned (.bool true) ∧ Below w.heap.size w w' := by
  go_enter Try.func9, Try.ntmps9
  go_wp2_with fail
  refine (two_any w).mono ?_
  rintro e w1 ⟨v1, L, rfl, hL, hl1, hb1⟩
  have hw1 : weightE (L.map It.e) ≤ 4294967296 := by rw [hL]; decide
  have HE := encode_any (z := 512) hl1 hw1
  rw [hL, two_ok, if_pos rfl, twoB_is] at HE
  have HB1 : Hid (Below w.heap.size w w1) := hb1
  clear hb1 hl1 hw1
  go_wp2_with fail
  refine HE.mono ?_
  rintro e w2 ⟨v2, rfl, hk2, hb2⟩
  have HB2 : Hid (Below w.heap.size w w2) := HB1.out.trans (hb2.mono HB1.out.size)
  have HK2 : Hid (KeyAt w2 v2 twoB) := hk2.at
  have HD := decode_any (z := 512) hk2.at
  clear HE hb2 hk2
  go_wp2_with fail
  refine HD.mono ?_
  rintro e w3 ⟨vl, F, rfl, hF, hFe, hb3⟩
  have hde : decE 512 twoB = some twoE := (decE_iff (by decide)).2 ⟨two_ok, twoB_is⟩
  rw [hde, if_pos (by decide)] at hFe
  rw [if_pos (by decide), hde]
  change F.map It.e = twoE at hFe
  have HB3 : Hid (Below w.heap.size w w3) := HB2.out.trans (hb3.mono HB2.out.size)
  have HFE : Hid (F.map It.e = twoE) := hFe
  have HF : Hid (ListAt w3.heap.size w3 vl F) := hF.list (by have := congrArg List.length hFe; simp [twoE] at this; omega)
  have HK3 : Hid (KeyAt w3 v2 twoB) := HK2.out.here hb3
  clear hF hFe hb3 HD
  go_wp2_with fail
  refine (two_any w3).mono ?_
  rintro e w4 ⟨v4, M, rfl, hM, hl4, hb4⟩
  have HB4 : Hid (Below w.heap.size w w4) := HB3.out.trans (hb4.mono HB3.out.size)
  have HS := same_any (HF.out.here hb4) hl4
  rw [HFE.out, hM] at HS
  have HK4 : Hid (KeyAt w4 v2 twoB) := HK3.out.here hb4
  clear hb4 hl4 hM
  go_wp2_with fail
  refine HS.mono ?_
  rintro e w5 ⟨rfl, q5, rfl⟩
  have cv := conv_key (HK4.out.draws q5)
  have sq : ((strB twoB).toList == [0, 2, 0, 0, 0, 2, 0, 1, 97, 98, 49, 0, 2, 0, 1, 0, 2, 99, 50, 51]) = true := by
    rw [ByteArray.toList_eq]; simp [strB, twoB]
  have SQ : Hid _ := sq
  clear sq
  generalize strB twoB = S at cv SQ
  go_wp2_with fail
  go_ret
  exact ⟨ret_bool SQ.out, below_draws HB4.out q5⟩
end Go.Proofs.Ytgifnaahahfhbaa
