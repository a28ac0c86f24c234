/- The memory of a cache: its head, its places in a ring, its map. -/
import Derived.Test.YteajgodpdfcioaaBase
import Derived.LaidEqlPtr
namespace Go.Proofs.Yteajgodpdfcioaa
open Go.RowKit Go.Maps

/-- A place. -/
structure Pl where
  b : Nat
  n : Int
  x : Value
  pins : Nat
  used : Nat
def Pl.th (p : Pl) : Th Value := ⟨p.n, p.x, p.pins⟩
def plc (p : Pl) (a b : Nat) : Array Value := #[.int .i64 p.n, p.x, .int .i64 (p.pins : Int), .int .u64 (p.used : Int), ptr a, ptr b]
/-- The place that has no thing. -/
def endP (e : Nat) : Pl := ⟨e, 0, (.int .i64 0), 0, 18446744073709551615⟩
/-- A thing's value. -/
def IsT (x : Value) : Prop := ∃ z, x = .int .i64 z
structure Hd where
  places : Nat
  m : Nat
  e : Nat
  f : Nat
  uses : Nat
  hits : Nat
  misses : Nat
def hdr (h : Hd) : Array Value := #[.int .i64 (h.places : Int), .map (some h.m), ptr h.e, ptr h.f, .int .u64 (h.uses : Int), .int .i64 (h.hits : Int), .int .i64 (h.misses : Int)]
abbrev HdAt (w : World) (c : Nat) (h : Hd) : Prop := w.heap[c]? = some (.cells (hdr h) 71 (0, 0))
abbrev PlAt (w : World) (p : Pl) (a b : Nat) : Prop := w.heap[p.b]? = some (.cells (plc p a b) 68 (0, 0))
/-- The ring of places. -/
structure RingAt (w : World) (e : Nat) (G : List Pl) (nx pv : Nat → Nat) : Prop where
  mem : ∀ p ∈ endP e :: G, PlAt w p (pv p.b) (nx p.b)
  ring : Ring nx pv e (G.map Pl.b)
theorem RingAt.blocks {w : World} {e : Nat} {G : List Pl} {nx pv : Nat → Nat} (h : RingAt w e G nx pv) {k : Nat} (hk : k ∈ e :: G.map Pl.b) : ∃ cur, w.heap[k]? = some (.cells cur 68 (0, 0)) := by
  have : k ∈ (endP e :: G).map Pl.b := by simpa [endP] using hk
  obtain ⟨p, hp, rfl⟩ := List.mem_map.1 this
  exact ⟨_, h.mem p hp⟩
theorem RingAt.apart {w : World} {c e : Nat} {h : Hd} {G : List Pl} {nx pv : Nat → Nat} (hr : RingAt w e G nx pv) (hc : HdAt w c h) : c ∉ e :: G.map Pl.b := fun hk => by
  obtain ⟨cur, h1⟩ := hr.blocks hk
  rw [hc] at h1
  simp at h1
theorem RingAt.same {w w' : World} {e : Nat} {G : List Pl} {nx pv : Nat → Nat} (h : RingAt w e G nx pv) (hs : ∀ k ∈ e :: G.map Pl.b, w'.heap[k]? = w.heap[k]?) : RingAt w' e G nx pv := by
  refine ⟨fun p hp => ?_, h.ring⟩
  have hb : p.b ∈ e :: G.map Pl.b := by
    rcases List.mem_cons.1 hp with rfl | hp
    · simp [endP]
    · exact List.mem_cons_of_mem _ (List.mem_map_of_mem hp)
  show w'.heap[p.b]? = _
  rw [hs _ hb]
  exact h.mem p hp
/-- What a store into a place's cells does to the ring. -/
theorem plc_nx (p : Pl) (a b q : Nat) : (plc p a b).setIfInBounds 5 (ptr q) = plc p a q := by simp [plc]
theorem plc_pv (p : Pl) (a b q : Nat) : (plc p a b).setIfInBounds 4 (ptr q) = plc p q b := by simp [plc]
theorem mem_nx {w : World} {R : List Pl} {nx pv : Nat → Nat} (h : ∀ p ∈ R, PlAt w p (pv p.b) (nx p.b)) (a q : Nat) : ∀ p ∈ R, PlAt (w.setCell ⟨a, 5, none⟩ (ptr q)) p (pv p.b) (upd nx a q p.b) := fun p hp => by
  by_cases e : p.b = a
  · subst e
    rw [upd_same]
    exact (heap_set_same _ (h p hp)).trans (by rw [plc_nx])
  · rw [upd_other e]
    have k := (setCell_kept (w := w) (b := a) (i := 5) (ptr q)).block p.b (Array.getElem?_eq_some_iff.1 (h p hp)).1 e
    exact k.trans (h p hp)
theorem mem_pv {w : World} {R : List Pl} {nx pv : Nat → Nat} (h : ∀ p ∈ R, PlAt w p (pv p.b) (nx p.b)) (a q : Nat) : ∀ p ∈ R, PlAt (w.setCell ⟨a, 4, none⟩ (ptr q)) p (upd pv a q p.b) (nx p.b) := fun p hp => by
  by_cases e : p.b = a
  · subst e
    rw [upd_same]
    exact (heap_set_same _ (h p hp)).trans (by rw [plc_pv])
  · rw [upd_other e]
    have k := (setCell_kept (w := w) (b := a) (i := 4) (ptr q)).block p.b (Array.getElem?_eq_some_iff.1 (h p hp)).1 e
    exact k.trans (h p hp)
theorem set_far {w : World} {b i k : Nat} (v : Value) (hk : k ≠ b) : (w.setCell ⟨b, i, none⟩ v).heap[k]? = w.heap[k]? := by simp [World.setCell, Array.getElem?_modify, Ne.symm hk]

theorem infoP : ∃ j, Try.prog.info? 68 = some j ∧ j.size ≠ 0 := by
  have h : (Try.prog.info? 68).map (fun i => i.size) = some 6 := by kernel_rfl
  cases hi : Try.prog.info? 68 with
  | none => rw [hi] at h; simp at h
  | some i => rw [hi] at h; simp at h; exact ⟨i, rfl, by omega⟩
/-- Two places held against one another. -/
theorem ptr_same (w : World) (b : Nat) : (binOp .eql 65 (.pointer (some ⟨b, 0, none⟩)) (.pointer (some ⟨b, 0, none⟩))).run Try.prog w = .ok (.bool true) w := by
  obtain ⟨j, hj, _⟩ := infoP
  exact run_eql_ptr_same w _ Try.underlying65 hj
theorem ptr_other {w : World} {a b : Nat} {ca cb : Array Value} {ta tb : TypeId} (ha : w.heap[a]? = some (.cells ca ta (0, 0))) (hb : w.heap[b]? = some (.cells cb tb (0, 0))) (h : a ≠ b) : (binOp .eql 65 (.pointer (some ⟨a, 0, none⟩)) (.pointer (some ⟨b, 0, none⟩))).run Try.prog w = .ok (.bool false) w := by
  obtain ⟨j, hj, h0⟩ := infoP
  exact run_eql_ptr_other w Try.underlying65 hj h0 (fun e => h (by injection e)) ha hb
theorem ptr_other' {w : World} {a b : Nat} {ca cb : Array Value} {ta tb : TypeId} (ha : w.heap[a]? = some (.cells ca ta (0, 0))) (hb : w.heap[b]? = some (.cells cb tb (0, 0))) (h : a ≠ b) : (binOp .neq 65 (.pointer (some ⟨a, 0, none⟩)) (.pointer (some ⟨b, 0, none⟩))).run Try.prog w = .ok (.bool true) w := by
  have h1 := ptr_other ha hb h
  simp only [binOp] at h1 ⊢
  cases he : (Op.equal 65 (.pointer (some ⟨a, 0, none⟩)) (.pointer (some ⟨b, 0, none⟩))).run Try.prog w <;> simp_all
theorem ptr_same' (w : World) (b : Nat) : (binOp .neq 65 (.pointer (some ⟨b, 0, none⟩)) (.pointer (some ⟨b, 0, none⟩))).run Try.prog w = .ok (.bool false) w := by
  have h1 := ptr_same w b
  simp only [binOp] at h1 ⊢
  cases he : (Op.equal 65 (.pointer (some ⟨b, 0, none⟩)) (.pointer (some ⟨b, 0, none⟩))).run Try.prog w <;> simp_all

/-- The map of a list of places. -/
structure MapOf (w : World) (m : Nat) (D : DataW Value) (G : List Pl) : Prop where
  own : w.ownsMap Try.prog 3 hP m G.length D
  here : ∀ p ∈ G, valAt D p.n (ptr p.b)
  no : ∀ n, (∀ p ∈ G, p.n ≠ n) → Maps.has D (key n) = false
  size : Maps.size D = G.length
theorem MapOf.same {w w' : World} {m : Nat} {D : DataW Value} {G : List Pl} (h : MapOf w m D G) (e : w'.heap[m]? = w.heap[m]?) : MapOf w' m D G := ⟨map_same h.own e, h.here, h.no, h.size⟩
/-- It asks for numbers and blocks alone. -/
theorem MapOf.perm {w : World} {m : Nat} {D : DataW Value} {G G' : List Pl} (h : MapOf w m D G) (hl : G'.length = G.length) (h1 : ∀ p ∈ G', ∃ q ∈ G, q.n = p.n ∧ q.b = p.b) (h2 : ∀ q ∈ G, ∃ p ∈ G', p.n = q.n) : MapOf w m D G' := by
  refine ⟨by rw [hl]; exact h.own, fun p hp => ?_, fun n hn => h.no n (fun q hq e => ?_), by rw [hl]; exact h.size⟩
  · obtain ⟨q, hq, e1, e2⟩ := h1 p hp
    rw [← e1, ← e2]
    exact h.here q hq
  · obtain ⟨p, hp, e1⟩ := h2 q hq
    exact hn p hp (e1.trans e)
theorem MapOf.put {w w' : World} {m : Nat} {D : DataW Value} {G : List Pl} {p : Pl} (h : MapOf w m D G) (hn : ∀ q ∈ G, q.n ≠ p.n) (ho : w'.ownsMap Try.prog 3 hP m (G.length + 1) (D.put (key p.n) (.held (ptr p.b)))) : MapOf w' m (D.put (key p.n) (.held (ptr p.b))) (G ++ [p]) := by
  have hno := h.no p.n hn
  have hD := h.own.isMap
  have hk : WideAt.IsKeyLit (key p.n) := by simp [WideAt.IsKeyLit]
  refine ⟨by simpa using ho, fun q hq z => ?_, fun n hq => ?_, ?_⟩
  · rcases List.mem_append.1 hq with hq | hq
    · rw [atKey_put_other (key_ne (hn q hq))]
      exact h.here q hq z
    · simp at hq
      subst hq
      exact atKey_put_same hD hk _ _
  · rw [has_put_other (key_ne (Ne.symm (hq p (by simp))))]
    exact h.no n (fun q hm => hq q (by simp [hm]))
  · rw [size_put (h.own.tidy law3), hno, h.size]
    simp
theorem MapOf.del {w w' : World} {m : Nat} {D : DataW Value} {A B : List Pl} {p : Pl} (h : MapOf w m D (A ++ p :: B)) (hn : ∀ q ∈ A ++ B, q.n ≠ p.n) {c : Nat} (ho : w'.ownsMap Try.prog 3 hP m c (D.del (key p.n))) : MapOf w' m (D.del (key p.n)) (A ++ B) := by
  have hs : Maps.size (D.del (key p.n)) = (A ++ B).length := by
    have h1 := size_del (k := key p.n) (h.own.tidy law3)
    rw [valAt_has (h.here p (by simp)), h.size] at h1
    simp at h1 ⊢
    omega
  refine ⟨by rw [← hs]; exact tight_map ho, fun q hq z => ?_, fun n hq => ?_, hs⟩
  · rw [atKey_del_other (key_ne (hn q hq))]
    exact h.here q (by simp at hq ⊢; rcases hq with hq | hq <;> simp [hq]) z
  · by_cases e : n = p.n
    · subst e; exact has_del_same
    · rw [has_del_other (key_ne e)]
      refine h.no n (fun q hm => ?_)
      simp at hm
      rcases hm with hm | rfl | hm
      · exact hq q (by simp [hm])
      · exact Ne.symm e
      · exact hq q (by simp [hm])

/-- What is to be said of where 'from' stands. -/
def FromOk (e f : Nat) (G : List Pl) : Prop := ∃ F R, G = F ++ R ∧ (∀ q ∈ F, 0 < q.pins) ∧ f = fstB e (R.map Pl.b)
structure CacheIs (U : Nat) (w : World) (c : Nat) (h : Hd) (D : DataW Value) (G : List Pl) (nx pv : Nat → Nat) : Prop where
  head : HdAt w c h
  ring : RingAt w h.e G nx pv
  map : MapOf w h.m D G
  nums : (G.map Pl.n).Nodup
  room : G.length ≤ h.places
  places : 1 ≤ h.places ∧ h.places ≤ 65536
  from_ : FromOk h.e h.f G
  rise : (G.map Pl.used).Pairwise (· < ·)
  top : ∀ p ∈ G, p.used ≤ h.uses
  typ : ∀ p ∈ G, IsT p.x
  wf : ∀ p ∈ G, (Lit.int .i64 p.n).wf = true
  caps : h.uses ≤ U ∧ h.hits ≤ U ∧ h.misses ≤ U ∧ ∀ p ∈ G, p.pins ≤ U
def Hd.ca (h : Hd) (G : List Pl) : Ca Value := ⟨h.places, h.hits, h.misses, G.map Pl.th⟩
/-- The blocks of a cache. -/
def OwnOf (c : Nat) (h : Hd) (G : List Pl) (k : Nat) : Prop := k = c ∨ k = h.m ∨ k ∈ h.e :: G.map Pl.b
/-- A cache at a block, what it is, which blocks are its own; U: a bound on all its counts. -/
def CacheAt (U : Nat) (own : Nat → Prop) (w : World) (c : Nat) (s : Ca Value) : Prop :=
  ∃ h D G nx pv, CacheIs U w c h D G nx pv ∧ s = h.ca G ∧ ∀ k, own k ↔ OwnOf c h G k
end Go.Proofs.Yteajgodpdfcioaa
