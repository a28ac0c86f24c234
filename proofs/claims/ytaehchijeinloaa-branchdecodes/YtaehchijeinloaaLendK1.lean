/- lend: its parts. -/
import Derived.Test.YtaehchijeinloaaLoanK
import Derived.Test.YtaehchijeinloaaWeight
import Derived.Deep.RegionHeldLaw
import Derived.Lib.SlBytesConst
namespace Go.Proofs.Ytaehchijeinloaa
open Go.RowKit

/-- One block has changed, no other. -/
structure Only (g : Nat) (w w' : World) : Prop where
  low : Below g w w'
  far : ∀ k, k ≠ g → w'.heap[k]? = w.heap[k]?
theorem Only.below {g B : Nat} {w w' : World} (h : Only g w w') (hB : B ≤ g) : Below B w w' := h.low.mono hB
/-- 'copy' as a step of a region that draws its order, the row behind it told, no other block touched. -/
theorem step_copy_only {P : Program} {ops : Array Oper} {o : Oper} {a : Act} {w : World} {K : Act → World → Prop} {Q : Exit → Act → World → Prop} {E : Prop} (hgd : o.guard = none) (d s : Operand) (dT sT : TypeId)
    (ho : o.op = .call { callee := .builtin .copy, args := #[d, s], argTypes := #[dT, sT] }) (elem : TypeId) (hu : P.underlying dT = some (.slice elem)) (hsz : (P.info? elem).map (·.size) = some 1)
    (dp sp : Option Addr) (dLen dCap sLen sCap : Nat) (hd : a.eval d = .slice dp dLen dCap) (hs : a.eval s = .slice sp sLen sCap)
    (g off : Nat) (cur : List Value) (t : TypeId) (hg : w.heap[g]? = some (.cells cur.toArray t (0, 0))) (cs : List Value) (hn : cs.length = Nat.min sLen dLen)
    (hpos : 0 < cs.length → dp = some ⟨g, off, none⟩ ∧ ∃ ad, sp = some ad ∧ ∀ j v, cs[j]? = some v → w.cell? (ad.add j) = some v)
    (hfit : off + cs.length ≤ cur.length) (h1 : ∀ v ∈ cs, v.oneCell' = true)
    (h : ∀ w', Hid (w'.heap[g]? = some (.cells (splice cur off cs).toArray t (0, 0))) → Only g w w' → K (a.put o.dst (goInt cs.length)) w') :
    if Region.wanted o (yielded ops a.tmps) = true then Oper.wp P o a w K Q else E := by
  have hw : Region.wanted o (yielded ops a.tmps) = true := by simp [Region.wanted, hgd]
  rw [if_pos hw]
  by_cases h0 : cs.length = 0
  · obtain rfl : cs = [] := List.eq_nil_of_length_eq_zero h0
    have hrun := run_copy_none (P := P) w dT sT o.type elem dp sp dLen dCap sLen sCap hu hsz (by simpa using hn.symm)
    unfold Oper.wp
    simp [execOp, ho, resolve, invoke, builtin, hd, hs, hrun, Result.andThen]
    exact h w (show _ = _ by simpa [splice] using hg) ⟨Below.refl _ _, fun _ _ => rfl⟩
  · obtain ⟨rfl, ad, rfl, hsrc⟩ := hpos (by omega)
    have hrun := run_copy_row (P := P) w dT sT o.type elem g off dLen dCap ad sLen sCap cur.toArray t cs hu hsz hg hn hsrc (by simpa using hfit) h1
    unfold Oper.wp
    simp [execOp, ho, resolve, invoke, builtin, hd, hs, hrun, Result.andThen]
    exact h _ (show _ = _ by simpa [splice] using setRow_heap w g _ _ t _ hg) ⟨below_setRow (Below.refl _ _) (Nat.le_refl _) _, fun k hk => setRow_other w g k _ hk⟩

theorem const_any (W : World) (m : Nat) (C : Array Value) (n c : Nat) (h : W.heap.size = m) : Sem.run Try.prog (convert 27 27 (.slice (some ⟨m, 0, none⟩) n c)) (W.alloc (.cells C 5)) = .ok (.slice (some ⟨m, 0, none⟩) n c) (W.alloc (.cells C 5 (C.size, C.size + 1))) := by
  subst h
  exact Lib.run_convert_bytes_const (P := Try.prog) W 27 5 C n c Try.underlying27 Try.underlying5
theorem madeInts (n : Nat) : (madeCells (Value.cells (.int .i64 0)) (n * 1)).toList = List.replicate n (.int .i64 0) := by
  simp only [madeCells, Value.cells, Nat.mul_one]
  apply List.ext_getElem
  · simp
  · intro i h1 h2
    simp [Nat.mod_one]
theorem sizeI : (Try.prog.info? 3).map (·.size) = some 1 := by kernel_rfl
theorem ints_src {B : Nat} {w : World} {a : Option Addr} {c n : Nat} {ps : List Int} (h : IntsAt B w (.slice a n c) ps) (g o : Nat) :
    0 < (ps.map encI).length → some (⟨g, o, none⟩ : Addr) = some ⟨g, o, none⟩ ∧ ∃ ad, a = some ad ∧ ∀ (j : Nat) (v : Value), (ps.map encI)[j]? = some v → w.cell? (ad.add j) = some v := by
  intro hpos
  refine ⟨rfl, ?_⟩
  obtain ⟨a', c', e, h2, h3, h4⟩ := h.row.is
  cases e
  obtain ⟨x, hx⟩ : ∃ x, (ps.map encI)[0]? = some x := ⟨_, List.getElem?_eq_getElem hpos⟩
  obtain ⟨g', off, rfl, _, _⟩ := h4 0 x hx
  refine ⟨_, rfl, fun j v hj => ?_⟩
  obtain ⟨g2, off2, e2, _, hc⟩ := h4 j v hj
  cases e2
  rw [add_at]
  exact hc
/-- The pages, and marks behind them as far as j; a key likewise. -/
def pagesM (ps : List Int) (j : Nat) : List Int := ps ++ (List.replicate j (-9) ++ List.replicate (3 - j) 0)
def keyM (k : Key) (j : Nat) : Key := k ++ (List.replicate j 167 ++ List.replicate (3 - j) 0)
theorem pagesM_length (ps : List Int) (j : Nat) (h : j ≤ 3) : (pagesM ps j).length = ps.length + 3 := by simp [pagesM]; omega
theorem keyM_length (k : Key) (j : Nat) (h : j ≤ 3) : (keyM k j).length = k.length + 3 := by simp [keyM]; omega
theorem pagesM_end (ps : List Int) : pagesM ps 3 = ps ++ [-9, -9, -9] := rfl
theorem keyM_end (k : Key) : keyM k 3 = k ++ mk3 := rfl
theorem pagesM_get (ps : List Int) (j : Nat) (h : j < 3) : (pagesM ps j)[ps.length + j]? = some 0 := by
  rw [pagesM, List.getElem?_append_right (by omega), Nat.add_sub_cancel_left, List.getElem?_append_right (by simp)]
  simp [List.getElem?_replicate]; omega
theorem keyM_get (k : Key) (j : Nat) (h : j < 3) : (keyM k j)[k.length + j]? = some 0 := by
  rw [keyM, List.getElem?_append_right (by omega), Nat.add_sub_cancel_left, List.getElem?_append_right (by simp)]
  simp [List.getElem?_replicate]; omega
theorem set_fill {α : Type} (ps : List α) (x z : α) (j : Nat) (h : j < 3) : (ps ++ (List.replicate j x ++ List.replicate (3 - j) z)).set (ps.length + j) x = ps ++ (List.replicate (j + 1) x ++ List.replicate (3 - (j + 1)) z) := by
  rw [List.set_append_right _ _ (by omega), Nat.add_sub_cancel_left, List.set_append_right _ _ (by simp), List.length_replicate, Nat.sub_self, show 3 - j = (3 - (j + 1)) + 1 by omega, List.replicate_succ, List.set_cons_zero, List.replicate_succ']
  simp
theorem pagesM_set (ps : List Int) (j : Nat) (h : j < 3) : (pagesM ps j).set (ps.length + j) (-9) = pagesM ps (j + 1) := set_fill ps (-9) 0 j h
theorem keyM_set (k : Key) (j : Nat) (h : j < 3) : (keyM k j).set (k.length + j) 167 = keyM k (j + 1) := set_fill k 167 0 j h
theorem pages_splice (ps : List Int) : splice (List.replicate (ps.length + 3) (Value.int .i64 0)) 0 (ps.map encI) = (pagesM ps 0).map encI := by
  simp [splice, pagesM, List.drop_replicate, encI]
theorem key_splice (k : Key) : splice (List.replicate (k.length + 3) (Value.int .u8 0)) 0 (k.map encB) = (keyM k 0).map encB := by
  simp [splice, keyM, List.drop_replicate, encB]
/-- A row of bytes in a block. -/
structure BRow (w : World) (g : Nat) (k : Key) : Prop where
  row : w.heap[g]? = some (.cells (k.map encB).toArray 5 (0, 0))
theorem BRow.lt {g : Nat} {w : World} {k : Key} (h : BRow w g k) : g < w.heap.size := (Array.getElem?_eq_some_iff.1 h.row).1
theorem BRow.cell {g : Nat} {w : World} {k : Key} (h : BRow w g k) (i : Nat) (c : UInt8) (hi : k[i]? = some c) : w.cell? ⟨g, i, none⟩ = some (.int .u8 (c.toNat : Int)) ∧ w.frozen? ⟨g, i, none⟩ = false :=
  ⟨by rw [row_cell h.row]; simp [hi, encB], row_frozen h.row _⟩
theorem BRow.set {g : Nat} {w : World} {k : Key} (h : BRow w g k) (i : Nat) (c : UInt8) : BRow (w.setCell ⟨g, i, none⟩ (.int .u8 (c.toNat : Int))) g (k.set i c) :=
  ⟨by rw [heap_set_same _ h.row]; congr 1; apply congrArg (fun a => Obj.cells a _ _); apply Array.ext'; simp [List.map_set, encB]⟩
theorem BRow.here {g : Nat} {w w' : World} {k : Key} (h : BRow w g k) (hb : Below w.heap.size w w') : BRow w' g k := ⟨(hb.block _ h.lt).trans h.row⟩
theorem weightL_length (L : List Kc) : L.length ≤ weightL L := by
  induction L with
  | nil => exact Nat.zero_le _
  | cons a L ih => simp only [weightL, List.map_cons, List.sum_cons, List.length_cons] at ih ⊢; omega
theorem weightL_mem {L : List Kc} {e : Kc} (h : e ∈ L) : e.k.length ≤ weightL L := by
  induction L with
  | nil => cases h
  | cons a L ih =>
    simp only [weightL, List.map_cons, List.sum_cons] at ih ⊢
    rcases List.mem_cons.1 h with rfl | h
    · omega
    · have := ih h; omega

theorem KeysAt.cellB {B : Nat} {w : World} {v : Value} {L : List Kc} (h : KeysAt B w v L) (i : Nat) (e : Kc) (hi : L[i]? = some e) :
    ∃ g off c, v = .slice (some ⟨g, off, none⟩) L.length c ∧ g < B ∧ w.cell? ⟨g, off + i, none⟩ = some e.v := by
  obtain ⟨a, c, h1, _, _, h4⟩ := h.row.is
  obtain ⟨g, off, rfl, hg, hc⟩ := h4 i e.v (by simp [hi])
  rw [List.length_map] at h1
  exact ⟨g, off, c, h1, hg, hc⟩
theorem put_far2 {w : World} {b i g o : Nat} {v : Value} (h : b ≠ g) : (w.setCell ⟨b, i, none⟩ v).cell? ⟨g, o, none⟩ = w.cell? ⟨g, o, none⟩ := by
  simp only [World.cell?]
  rw [heap_set_other v (Ne.symm h)]
theorem cell_drew (w : World) (a : Addr) : w.drew.cell? a = w.cell? a := rfl
theorem put01_cell {w : World} {b g o : Nat} {u v : Value} (h : b ≠ g ∨ (o ≠ 0 ∧ o ≠ 1)) (hr : ∃ cur, w.heap[b]? = some (.cells cur 33 (0, 0))) : ((w.setCell ⟨b, 0, none⟩ u).setCell ⟨b, 1, none⟩ v).cell? ⟨g, o, none⟩ = w.cell? ⟨g, o, none⟩ := by
  by_cases hb : b = g
  · subst hb
    obtain ⟨cur, hr⟩ := hr
    obtain ⟨h0, h1⟩ := h.resolve_left (fun h => h rfl)
    rw [row_cell (heap_set_same v (heap_set_same u hr)), row_cell hr]
    rw [Array.getElem?_setIfInBounds_ne (Ne.symm h1), Array.getElem?_setIfInBounds_ne (Ne.symm h0)]
  · rw [put_far2 hb, put_far2 hb]
theorem keepL_grown {base : Nat} {w w6 : World} {vk : Value} {KV : List Value} {n : Nat} {wA : World} (hA : Below w.heap.size w wA) (hv : wA.ownsRow base 27 1 vk n KV) (hg : wA.grownBy w6 vk.ownBlock) (hbase : base ≤ w.heap.size) : KeepL base w w6 := by
  have hlow : Below base w w6 := (hA.mono hbase).trans ((Below.refl _ _).grown hg (Nat.le_trans hbase hA.size) (fun k e => (own_type hv k e).2.1))
  refine ⟨hlow, fun k cur t z h1 h2 hk => ?_⟩
  have e1 : wA.heap[k]? = some (.cells cur t z) := by rw [hA.block k (Array.getElem?_eq_some_iff.1 hk).1]; exact hk
  exact grown_typ hv hg k cur t z h1 e1
theorem own_form {w : World} {base n s : Nat} {T : TypeId} {v : Value} {xs : List Value} (h : w.ownsRow base T s v n xs) : ∃ a c, v = .slice a n c := by
  obtain ⟨_, ⟨e, h0⟩ | ⟨g, cap, cur, e, _⟩⟩ := h
  · exact ⟨_, _, by rw [e, h0]⟩
  · exact ⟨_, _, e⟩
/-- Kids are being lent: the pages. -/
structure PagesMade (w wx : World) (b n : Nat) (x y : Value) (R : List Int) : Prop where
  par : KBox wx w.heap.size x y
  box : LBox wx b (.slice none 0 0) (.slice none 0 0) (.slice (some ⟨w.heap.size + 1, 0, none⟩) n n) (.slice none 0 0) (.slice none 0 0)
  hb : w.heap.size ≤ b
  row : IRow w.heap.size wx (w.heap.size + 1) R
  low : Below w.heap.size w wx
theorem PagesMade.only {w wx w' : World} {b n : Nat} {x y : Value} {R S : List Int} (h : PagesMade w wx b n x y R) (ho : Only (w.heap.size + 1) wx w') (hr : w'.heap[w.heap.size + 1]? = some (.cells (S.map encI).toArray 3 (0, 0))) : PagesMade w w' b n x y S := by
  have hne : b ≠ w.heap.size + 1 := tag_ne h.box.row h.row.row (by decide)
  exact ⟨⟨(ho.far _ (by omega)).trans h.par.row⟩, ⟨(ho.far _ hne).trans h.box.row⟩, h.hb, ⟨by omega, hr⟩, h.low.trans (ho.below (by omega))⟩
theorem PagesMade.set {w wx : World} {b n : Nat} {x y : Value} {R : List Int} (h : PagesMade w wx b n x y R) (i : Nat) (p : Int) : PagesMade w (wx.setCell ⟨w.heap.size + 1, i, none⟩ (.int .i64 p)) b n x y (R.set i p) :=
  h.only ⟨Below.setCell (p := ⟨w.heap.size + 1, i, none⟩) (Below.refl _ _) (Nat.le_refl _) _, fun _ hk => heap_set_other _ hk⟩ (h.row.set i p).row
theorem PagesMade.here {w wx w' : World} {b n : Nat} {x y : Value} {R : List Int} (h : PagesMade w wx b n x y R) (hb : Below wx.heap.size wx w') : PagesMade w w' b n x y R :=
  ⟨h.par.here hb, h.box.here hb, h.hb, h.row.here hb, h.low.trans (hb.mono h.low.size)⟩
/-- Kids are being lent: the keys. -/
structure Lending (w wx : World) (b : Nat) (x y : Value) (ps : List Int) (L : List Kc) (m : Nat) (F : List Lk) (vk vl : Value) : Prop where
  par : KBox wx w.heap.size x y
  lent : Lent w.heap.size b (w.heap.size + 1) wx (.slice (some ⟨w.heap.size + 1, 0, none⟩) (ps.length + 3) (ps.length + 3)) (ps ++ [-9, -9, -9]) F (F.map Lk.kv) (F.map Lk.lv) vk vl
  nod : (F.map Lk.g).Nodup
  is : F.map Lk.k = (keysOf L).take m
  len : F.length = m
  low : Below w.heap.size w wx
theorem Lending.start {w wx : World} {b : Nat} {x y : Value} {ps : List Int} {L : List Kc} (h : PagesMade w wx b (ps.length + 3) x y (ps ++ [-9, -9, -9])) : Lending w wx b x y ps L 0 [] (.slice none 0 0) (.slice none 0 0) :=
  ⟨h.par, ⟨h.box, h.hb, h.row, World.ownsRow_nil _ _ _ _, World.ownsRow_nil _ _ _ _, fun g e => (by cases e), fun z hz => (by simp at hz)⟩, by simp, by simp, rfl, h.low⟩
def markC : Array Value := #[.int .u8 109, .int .u8 97, .int .u8 114, .int .u8 107]
/-- The two marks, in blocks of their own, and a row of both. -/
def marksW (w : World) (f : Nat × Nat) : World := ((w.alloc (.cells markC 5 f)).alloc (.cells markC 5 f)).alloc (.cells #[.slice (some ⟨w.heap.size, 0, none⟩) 4 4, .slice (some ⟨w.heap.size + 1, 0, none⟩) 4 4] 27)
theorem marksW_size (w : World) (f : Nat × Nat) : (marksW w f).heap.size = w.heap.size + 3 := by simp [marksW]
theorem marksW_below (w : World) (f : Nat × Nat) : Below w.heap.size w (marksW w f) := ((below_new w _).alloc (by simp) _).alloc (by simp; omega) _
theorem marksW_rows (w : World) (f : Nat × Nat) : (marksW w f).heap[w.heap.size]? = some (.cells markC 5 f) ∧ (marksW w f).heap[w.heap.size + 1]? = some (.cells markC 5 f) := by
  have e1 : (w.alloc (.cells markC 5 f)).heap[w.heap.size]? = some (.cells markC 5 f) := heap_alloc_last _ _
  have e2 : ((w.alloc (.cells markC 5 f)).alloc (.cells markC 5 f)).heap[w.heap.size + 1]? = some (.cells markC 5 f) := by
    have : (w.alloc (.cells markC 5 f)).heap.size = w.heap.size + 1 := by simp
    rw [← this]; exact heap_alloc_last _ _
  refine ⟨?_, ?_⟩
  · have h := ((below_new (w.alloc (.cells markC 5 f)) (.cells markC 5 f)).trans ((below_new ((w.alloc (.cells markC 5 f)).alloc (.cells markC 5 f)) (.cells #[.slice (some ⟨w.heap.size, 0, none⟩) 4 4, .slice (some ⟨w.heap.size + 1, 0, none⟩) 4 4] 27)).mono (by simp))).block w.heap.size (by simp)
    exact h.trans e1
  · have h := (below_new ((w.alloc (.cells markC 5 f)).alloc (.cells markC 5 f)) (.cells #[.slice (some ⟨w.heap.size, 0, none⟩) 4 4, .slice (some ⟨w.heap.size + 1, 0, none⟩) 4 4] 27)).block (w.heap.size + 1) (by simp)
    exact h.trans e2
theorem mark_of {W : World} {g : Nat} {f : Nat × Nat} (h : W.heap[g]? = some (.cells markC 5 f)) : KeyAt W (.slice (some ⟨g, 0, none⟩) 4 4) markK :=
  key_block h (fun j c h => by
    match j, h with
    | 0, h => cases h; rfl
    | 1, h => cases h; rfl
    | 2, h => cases h; rfl
    | 3, h => cases h; rfl) 4 4 rfl (Nat.le_refl _) (by omega)
theorem marksW_src (w : World) (f : Nat × Nat) : ∀ (j : Nat) (u : Value), [Value.slice (some ⟨w.heap.size, 0, none⟩) 4 4, Value.slice (some ⟨w.heap.size + 1, 0, none⟩) 4 4][j]? = some u → (marksW w f).cell? ((⟨w.heap.size + 2, 0, none⟩ : Addr).add j) = some u := by
  have h := World.news_of_block (cs := #[Value.slice (some ⟨w.heap.size, 0, none⟩) 4 4, Value.slice (some ⟨w.heap.size + 1, 0, none⟩) 4 4]) (heap_alloc_last ((w.alloc (.cells markC 5 f)).alloc (.cells markC 5 f)) (.cells #[.slice (some ⟨w.heap.size, 0, none⟩) 4 4, .slice (some ⟨w.heap.size + 1, 0, none⟩) 4 4] 27))
  have e : ((w.alloc (.cells markC 5 f)).alloc (.cells markC 5 f)).heap.size = w.heap.size + 2 := by simp
  rw [e] at h
  exact h
/-- The Loan is whole. -/
theorem Lent.loan {base b gp gl cl : Nat} {w : World} {ps : List Int} {F : List Lk} {vk m1 m2 : Value} (h : Lent base b gp w (.slice (some ⟨gp, 0, none⟩) (ps.length + 3) (ps.length + 3)) (ps ++ [-9, -9, -9]) F (F.map Lk.kv) (F.map Lk.lv ++ [m1, m2]) vk (.slice (some ⟨gl, 0, none⟩) (F.length + 2) cl))
    (hn : (F.map Lk.g).Nodup) (h1 : KeyAt w m1 markK) (h2 : KeyAt w m2 markK) (f1 : MarkFar base m1) (f2 : MarkFar base m2) :
    LoanAt base ((w.setCell ⟨b, 0, none⟩ (.slice (some ⟨gp, 0, none⟩) ps.length (ps.length + 3))).setCell ⟨b, 1, none⟩ (.slice (some ⟨gl, 0, none⟩) F.length cl)) b (.agg #[.slice (some ⟨gp, 0, none⟩) ps.length (ps.length + 3), .slice (some ⟨gl, 0, none⟩) F.length cl]) ps F ∧
    Below base w ((w.setCell ⟨b, 0, none⟩ (.slice (some ⟨gp, 0, none⟩) ps.length (ps.length + 3))).setCell ⟨b, 1, none⟩ (.slice (some ⟨gl, 0, none⟩) F.length cl)) := by
  obtain ⟨ak, ck, e0⟩ := own_form h.keys
  rw [List.length_map] at e0
  subst e0
  have hk : Keep 33 base w ((w.setCell ⟨b, 0, none⟩ (.slice (some ⟨gp, 0, none⟩) ps.length (ps.length + 3))).setCell ⟨b, 1, none⟩ (.slice (some ⟨gl, 0, none⟩) F.length cl)) := (keep_set h.box.row h.hb _).trans (keep_set (heap_set_same _ h.box.row) h.hb _)
  have ho : ∀ (n : Nat) (v : Value) (xs : List Value), w.ownsRow base 27 1 v n xs → ((w.setCell ⟨b, 0, none⟩ (.slice (some ⟨gp, 0, none⟩) ps.length (ps.length + 3))).setCell ⟨b, 1, none⟩ (.slice (some ⟨gl, 0, none⟩) F.length cl)).ownsRow base 27 1 v n xs := fun n v xs ho => own_same ho fun k hk2 _ => by
    obtain ⟨_, _, cur, hc⟩ := own_type ho k hk2
    rw [hc]; exact hk.typ _ _ _ _ (by decide) hc
  have hkey : ∀ v, KeyAt w v markK → KeyAt ((w.setCell ⟨b, 0, none⟩ (.slice (some ⟨gp, 0, none⟩) ps.length (ps.length + 3))).setCell ⟨b, 1, none⟩ (.slice (some ⟨gl, 0, none⟩) F.length cl)) v markK := fun v hv => by
    obtain ⟨⟨a, c, e, hb, hc⟩, hs⟩ := hv
    refine ⟨⟨a, c, e, fun j x hj => ?_, hc⟩, hs⟩
    obtain ⟨g, off, e1, hg, hcell⟩ := hb j x hj
    refine ⟨g, off, e1, by simpa using hg, ?_⟩
    have hne : b ≠ g := by
      rintro rfl
      have h5 := h.box.row
      have h6 := row_cell h5 (off + j)
      rw [hcell] at h6
      generalize off + j = i at h6
      match i, h6 with
      | 0, h6 => cases h6
      | 1, h6 => cases h6
      | 2, h6 => cases h6
      | 3, h6 => cases h6
      | 4, h6 => cases h6
      | n + 5, h6 => cases h6
    rw [put_far2 hne, put_far2 hne]; exact hcell
  refine ⟨⟨gp, gl, cl, _, m1, m2, rfl, ⟨by rw [heap_set_same _ (heap_set_same _ h.box.row)]; rfl⟩, ⟨h.hb, f1, f2⟩, ⟨h.pages.lo, hk.typ _ _ _ _ (by decide) h.pages.row⟩, ?_, ?_, fun z hz => ⟨(h.ok z hz).lo, hk.typ _ _ _ _ (by decide) (h.ok z hz).row, (h.ok z hz).short⟩, hn, hkey _ h1, hkey _ h2⟩, hk.low⟩
  · have := ho _ _ _ h.keys; rw [List.length_map] at this; exact this
  · have := ho _ _ _ h.list; simpa using this
/-- One key more. -/
theorem Lending.next {w wa wx w' : World} {b m : Nat} {x y : Value} {ps : List Int} {L : List Kc} {F : List Lk} {vk vl vk' vl' : Value} {e : Kc} (h : Lending w wa b x y ps L m F vk vl) (hx : Below wa.heap.size wa wx)
    (hl : Lent w.heap.size b (w.heap.size + 1) w' (.slice (some ⟨w.heap.size + 1, 0, none⟩) (ps.length + 3) (ps.length + 3)) (ps ++ [-9, -9, -9]) F (F.map Lk.kv ++ [(⟨wa.heap.size, e.k⟩ : Lk).kv]) (F.map Lk.lv ++ [(⟨wa.heap.size, e.k⟩ : Lk).lv]) vk' vl')
    (hk : KeepL w.heap.size wx w') (hr : BRow wx wa.heap.size (keyM e.k 3)) (he : L[m]? = some e) (hs : e.k.length ≤ 4294967296) :
    Lending w w' b x y ps L (m + 1) (F ++ [⟨wa.heap.size, e.k⟩]) vk' vl' := by
  have hlow := h.low.size
  have hok : (⟨wa.heap.size, e.k⟩ : Lk).Ok w.heap.size w' := Lk.Ok.keep (w := wx) ⟨hlow, by have := hr.row; rw [keyM_end] at this; exact this, hs⟩ hk
  refine ⟨⟨hk.typ _ _ _ _ (by decide) (by decide) (h.par.here hx).row⟩, ⟨hl.box, hl.hb, hl.pages, by rw [List.map_append]; exact hl.keys, by rw [List.map_append]; exact hl.list, hl.apart, fun z hz => ?_⟩, ?_, ?_, by simp [h.len], (h.low.trans (hx.mono hlow)).trans hk.low⟩
  · rcases List.mem_append.1 hz with h' | h'
    · exact hl.ok z h'
    · simp at h'; rw [h']; exact hok
  · rw [List.map_append, List.nodup_append]
    refine ⟨h.nod, by simp, fun a ha c hc e => ?_⟩
    obtain ⟨z, hz, rfl⟩ := List.mem_map.1 ha
    have h1 := (h.lent.ok z hz).lt
    simp at hc
    omega
  · rw [List.map_append, h.is, List.take_add_one, keysOf_get he]; rfl
end Go.Proofs.Ytaehchijeinloaa
