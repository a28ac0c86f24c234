/- The law's Book: entries: a list of entries more. -/
import Derived.Test.YtgifnaahahfhbaaBkEnds
import Derived.Test.YtgifnaahahfhbaaBkOutW
namespace Go.Proofs.Ytgifnaahahfhbaa
open Go.RowKit

/-- A Book with bytes and lists of entries that came out, all in blocks below a border. -/
structure Bx (b n β : Nat) (E : List (Value × Nat)) (w : World) : Prop where
  is : ∃ ve vl vw items was, Book ve w b b vl vw items was ∧ items.length = n ∧ (∀ (i : Nat) v bs, items[i]? = some (v, bs) → bs.length ≤ 1099511627776) ∧
    (∀ (i : Nat) v bs k, items[i]? = some (v, bs) → v.ownBlock = some k → k < β) ∧ w.ownsRow b 25 1 ve E.length (E.map (·.1))
  rows : ∀ (j : Nat) v n, E[j]? = some (v, n) → ∃ xs, w.ownsRow b 47 2 v n xs
  alone : AloneE E
  few : ∀ (j : Nat) v n, E[j]? = some (v, n) → n ≤ 1099511627776
  old : ∀ (j : Nat) v n k, E[j]? = some (v, n) → v.ownBlock = some k → k < β
/-- What stays when a Book is kept. -/
structure KeO (b : Nat) (w w' : World) : Prop where
  low : Below b w w'
  any : ∀ (k : Nat) (cur : Array Value) (t : TypeId) (z : Nat × Nat), t ≠ 31 → t ≠ 39 → t ≠ 25 → w.heap[k]? = some (.cells cur t z) → w'.heap[k]? = some (.cells cur t z)
theorem KeO.refl (b : Nat) (w : World) : KeO b w w := ⟨Below.refl _ _, fun _ _ _ _ _ _ _ h => h⟩
theorem KeO.trans {b : Nat} {a w c : World} (h : KeO b a w) (k : KeO b w c) : KeO b a c := ⟨h.low.trans k.low, fun i cur t z h1 h2 h3 hi => k.any i cur t z h1 h2 h3 (h.any i cur t z h1 h2 h3 hi)⟩
theorem KeO.of {b : Nat} {w w' : World} (h : Below w.heap.size w w') (hb : b ≤ w.heap.size) : KeO b w w' := ⟨h.mono hb, fun k cur t z _ _ _ hk => by rw [h.block k (Array.getElem?_eq_some_iff.1 hk).1]; exact hk⟩
theorem KeO.own {b base e n s : Nat} {w w' : World} {v : Value} {xs : List Value} (h : KeO b w w') (ho : w.ownsRow base e s v n xs) (h1 : e ≠ 31) (h2 : e ≠ 39) (h3 : e ≠ 25) : w'.ownsRow base e s v n xs :=
  own_same ho fun k hk _ => by
    obtain ⟨_, _, cur, hc⟩ := own_type ho k hk
    rw [hc]; exact h.any _ _ _ _ h1 h2 h3 hc
theorem KeO.ent {b base : Nat} {w w' : World} {e : It} (h : KeO b w w') (he : NewEnt base w e) : NewEnt base w' e :=
  ⟨⟨h.own he.k.own (by decide) (by decide) (by decide), he.k.short⟩, ⟨h.own he.v.own (by decide) (by decide) (by decide), he.v.short⟩, he.apart⟩
theorem KeO.list {b base : Nat} {w w' : World} {v : Value} {F : List It} (h : KeO b w w') (hF : NewList base w v F) : NewList base w' v F :=
  ⟨h.own hF.own (by decide) (by decide) (by decide), fun e he => h.ent (hF.ents e he), hF.apart⟩
theorem KeO.kept {b : Nat} {w w' : World} {ve vl vw : Value} {items : List (Value × List UInt8)} {was : List Value} (hB : Book ve w b b vl vw items was) (hk : KeptBut b vl vw w w') (hl : Below b w w') : KeO b w w' :=
  ⟨hl, fun _ _ _ _ h1 h2 _ hc => hk.stays hB hc h1 h2⟩
theorem blocks_one {e : It} {k : Nat} : k ∈ blocks [e] ↔ e.v1.ownBlock = some k ∨ e.v2.ownBlock = some k := by
  unfold blocks
  simp only [List.flatMap_cons, List.flatMap_nil, List.append_nil, List.mem_filterMap, List.mem_cons, List.not_mem_nil, or_false]
  constructor
  · rintro ⟨v, rfl | rfl, h⟩
    · exact .inl h
    · exact .inr h
  · rintro (h | h)
    · exact ⟨_, .inl rfl, h⟩
    · exact ⟨_, .inr rfl, h⟩
theorem apart_take {F : List It} (h : (blocks F).Nodup) {k : Nat} {e : It} (he : F[k]? = some e) {g : Nat} (hg : g ∈ blocks [e]) : g ∉ blocks (F.take k) := fun hm => by
  obtain ⟨hl, rfl⟩ := List.getElem?_eq_some_iff.1 he
  have e1 : F = F.take k ++ ([F[k]] ++ F.drop (k + 1)) := by
    rw [List.singleton_append, List.getElem_cons_drop, List.take_append_drop]
  rw [e1, blocks_append, blocks_append, List.nodup_append] at h
  exact h.2.2 g hm g (List.mem_append_left _ hg) rfl
theorem blocks_next {F : List It} {k : Nat} {e : It} (he : F[k]? = some e) : blocks (F.take (k + 1)) = blocks (F.take k) ++ blocks [e] := by
  rw [List.take_add_one, he, blocks_append]
  rfl
/-- Where the bytes of a Book lie, while a list's are kept. -/
structure Bi (b n β : Nat) (S : List Nat) (E : List (Value × Nat)) (w : World) : Prop where
  is : ∃ ve vl vw items was, Book ve w b b vl vw items was ∧ items.length = n ∧ (∀ (i : Nat) v bs, items[i]? = some (v, bs) → bs.length ≤ 1099511627776) ∧
    (∀ (i : Nat) v bs k, items[i]? = some (v, bs) → v.ownBlock = some k → k < β ∨ k ∈ S) ∧ w.ownsRow b 25 1 ve E.length (E.map (·.1))
set_option maxHeartbeats 800000 in
theorem keep_bi {b n β : Nat} {S : List Nat} {E : List (Value × Nat)} {w : World} {v : Value} {ks : Key} (h : Bi b n β S E w) (hv : NewKey β w v ks) (hS : ∀ k, v.ownBlock = some k → k ∉ S) (hlen : ks.length ≤ 1099511627776) (hn : n ≤ 1000000) (hbβ : b ≤ β) (hβ : β ≤ w.heap.size) :
    Calls Try.prog 35 #[.pointer (some ⟨b, 0, none⟩), v] w fun e w' => e = .returned (.tuple #[]) ∧ Bi b (n + 1) β (S ++ v.ownBlock.toList) E w' ∧ KeO b w w' := by
  obtain ⟨ve, vl, vw, items, was, h1, h2, h3, h4, h5⟩ := h.is
  refine (keep_any w b b vl vw items was v ks h1 (own_mono hv.own hbβ) (fun i v' bs' k hi hk hk' => ?_) hlen (by omega) (Nat.le_trans hbβ hβ)).mono ?_
  · rcases h4 i v' bs' k hi hk' with e | e
    · have := (own_type hv.own k hk).2.1; omega
    · exact hS k hk e
  · rintro e w' ⟨rfl, ⟨vl', vw', was', k1, _, _⟩, k4, k5⟩
    have hO := KeO.kept h1 k4 k5
    refine ⟨rfl, ⟨ve, vl', vw', items ++ [(v, ks)], was', k1, by simp [h2], fun i v' bs' hi => ?_, fun i v' bs' k hi hk => ?_, ?_⟩, hO⟩
    · rcases items_at _ _ _ _ hi with ⟨_, h⟩ | ⟨_, h⟩
      · exact h3 i v' bs' h
      · cases h; exact hlen
    · rcases items_at _ _ _ _ hi with ⟨_, h⟩ | ⟨_, h⟩
      · rcases h4 i v' bs' k h hk with e | e
        · exact .inl e
        · exact .inr (List.mem_append_left _ e)
      · cases h
        exact .inr (List.mem_append_right _ (by rw [hk]; simp))
    · refine own_same h5 fun k hk hl => ?_
      obtain ⟨_, _, cur, hc⟩ := own_type h5 k hk
      rw [hc]
      exact k4.stays h1 hc (by decide) (by decide)
theorem infoEs3 : ∃ i, Try.prog.info? 25 = some i ∧ i.zero = some (.slice none 0 0) ∧ i.size = 1 ∧ i.bytes = 24 := infoEs2
theorem at_snoc {α : Type} {l : List α} {x y : α} {i : Nat} (h : (l ++ [x])[i]? = some y) : l[i]? = some y ∨ (i = l.length ∧ y = x) := by
  rcases Nat.lt_or_ge i l.length with hl | hl
  · rw [List.getElem?_append_left hl] at h; exact .inl h
  · rw [List.getElem?_append_right hl] at h
    rcases Nat.eq_or_lt_of_le hl with e | e
    · rw [← e, Nat.sub_self] at h
      simp at h
      exact .inr ⟨e.symm, h.symm⟩
    · have : ([x] : List α)[i - l.length]? = none := by rw [List.getElem?_eq_none_iff]; simp; omega
      rw [this] at h; cases h
theorem ent_same {b : Nat} {wr wA w1 : World} {ve vl vw u : Value} {items : List (Value × List UInt8)} {was : List Value} {E : List Value} {n : Nat} (hB : Book ve wr b b vl vw items was) (hE : wr.ownsRow b 25 1 ve n E) (hA : Below wr.heap.size wr wA) (hg : wA.grownBy w1 ve.ownBlock) :
    ∀ (k : Nat) (cur : Array Value) (t : TypeId) (z : Nat × Nat), t ≠ 31 → t ≠ 25 → wr.heap[k]? = some (.cells cur t z) → (w1.setCell ⟨b, 2, none⟩ u).heap[k]? = some (.cells cur t z) := fun k cur t z h1 h2 hk => by
  have hl := (Array.getElem?_eq_some_iff.1 hk).1
  rw [heap_set_other _ (hB.not_b hk h1), hg.block k (Nat.lt_of_lt_of_le hl hA.size) (fun e => ?_), hA.block k hl, hk]
  obtain ⟨_, _, c', hc'⟩ := own_type hE k e.symm
  exact h2 (tagB_ne hk hc')
theorem ent_keo {b : Nat} {wr wA w1 : World} {ve vl vw u : Value} {items : List (Value × List UInt8)} {was : List Value} {E : List Value} {n : Nat} (hB : Book ve wr b b vl vw items was) (hE : wr.ownsRow b 25 1 ve n E) (hA : Below wr.heap.size wr wA) (hg : wA.grownBy w1 ve.ownBlock) : KeO b wr (w1.setCell ⟨b, 2, none⟩ u) := by
  have hbl := (Array.getElem?_eq_some_iff.1 hB.cells).1
  exact ⟨((hA.mono (Nat.le_of_lt hbl)).grown hg (Nat.le_of_lt (Nat.lt_of_lt_of_le hbl hA.size)) (fun k e => (own_type hE k e).2.1)).setCell (Nat.le_refl b) _, fun k cur t z h1 _ h3 hk => ent_same hB hE hA hg k cur t z h1 h3 hk⟩
theorem ent_bx {b n β β2 g1 c1 c : Nat} {a : Option Addr} {E : List (Value × Nat)} {w wr w1 : World} {ve vl vw : Value} {items : List (Value × List UInt8)} {was : List Value} {F : List It} (hX : Bx b n β E w) (hF : NewList β w (.slice a F.length c) F) (hbβ : b < β) (hle : β ≤ β2) (hn : F.length ≤ 1000000)
    (hko : KeO b w wr) (hB : Book ve wr b b vl vw items was) (hi : items.length = n + 2 * F.length) (hit : ∀ (i : Nat) v bs, items[i]? = some (v, bs) → bs.length ≤ 1099511627776)
    (hold : ∀ (i : Nat) v bs k, items[i]? = some (v, bs) → v.ownBlock = some k → k < β ∨ k ∈ blocks F) (hb1 : ∀ k ∈ blocks F, k < β2) (hb2 : ∀ k, (Value.slice a F.length c).ownBlock = some k → k < β2)
    (hs : ∀ (k : Nat) (cur : Array Value) (t : TypeId) (z : Nat × Nat), t ≠ 31 → t ≠ 25 → wr.heap[k]? = some (.cells cur t z) → (w1.setCell ⟨b, 2, none⟩ (.slice (some ⟨g1, 0, none⟩) (E.length + 1) c1)).heap[k]? = some (.cells cur t z))
    (hk2 : KeO b wr (w1.setCell ⟨b, 2, none⟩ (.slice (some ⟨g1, 0, none⟩) (E.length + 1) c1)))
    (hc : w1.heap[b]? = some (.cells #[vl, vw, ve] 31 (0, 0))) (ho : w1.ownsRow b 25 1 (.slice (some ⟨g1, 0, none⟩) (E.length + 1) c1) (E.length + 1) (E.map (·.1) ++ [.slice a F.length c])) (_hv : ve.ownBlock ≠ some b) :
    Bx b (n + 2 * F.length) β2 (E ++ [(.slice a F.length c, F.length)]) (w1.setCell ⟨b, 2, none⟩ (.slice (some ⟨g1, 0, none⟩) (E.length + 1) c1)) := by
  have hrow : ∀ {e s m : Nat} {v : Value} {xs : List Value}, e ≠ 31 → e ≠ 25 → wr.ownsRow b e s v m xs → (w1.setCell ⟨b, 2, none⟩ (.slice (some ⟨g1, 0, none⟩) (E.length + 1) c1)).ownsRow b e s v m xs := fun h1 h2 h => own_same h fun k hk _ => by
    obtain ⟨_, _, cur, hcu⟩ := own_type h k hk
    rw [hcu]; exact hs _ _ _ _ h1 h2 hcu
  refine ⟨⟨.slice (some ⟨g1, 0, none⟩) (E.length + 1) c1, vl, vw, items, was, ⟨?_, hB.low, hrow (by decide) (by decide) hB.rowL, hrow (by decide) (by decide) hB.rowW, hB.apart, fun i v bs h => hrow (by decide) (by decide) (hB.item i v bs h), fun i v bs u h h' => hrow (by decide) (by decide) (hB.wasI i v bs u h h'), hB.alone⟩, hi, hit, fun i v bs k h h' => ?_, ?_⟩, fun j v m h => ?_, ?_, fun j v m h => ?_, fun j v m k h h' => ?_⟩
  · rw [heap_set_same _ hc]; rfl
  · rcases hold i v bs k h h' with q | q
    · omega
    · exact hb1 k q
  · rw [List.length_append, List.map_append]
    refine own_same ho fun k hk _ => ?_
    obtain ⟨_, _, cur, hcu⟩ := own_type ho k hk
    exact heap_set_other _ (fun e => by subst e; exact absurd (tagB_ne hcu hc) (by decide))
  · rcases at_snoc h with h | ⟨_, h⟩
    · obtain ⟨xs, hx⟩ := hX.rows j v m h
      exact ⟨xs, hk2.own (hko.own hx (by decide) (by decide) (by decide)) (by decide) (by decide) (by decide)⟩
    · cases h
      exact ⟨_, hk2.own (hko.own (own_mono hF.own (Nat.le_of_lt hbβ)) (by decide) (by decide) (by decide)) (by decide) (by decide) (by decide)⟩
  · intro i j v m v' m' k h h' hk hk'
    rcases at_snoc h with h | ⟨e, h⟩ <;> rcases at_snoc h' with h' | ⟨e', h'⟩
    · exact hX.alone i j v m v' m' k h h' hk hk'
    · cases h'
      have h1 := hX.old i v m k h hk
      have h2 := (own_type hF.own k hk').2.1
      omega
    · cases h
      have h1 := hX.old j v' m' k h' hk'
      have h2 := (own_type hF.own k hk).2.1
      omega
    · rw [e, e']
  · rcases at_snoc h with h | ⟨_, h⟩
    · exact hX.few j v m h
    · cases h; omega
  · rcases at_snoc h with h | ⟨_, h⟩
    · exact Nat.lt_of_lt_of_le (hX.old j v m k h h') hle
    · cases h; exact hb2 k h'
set_option maxHeartbeats 1600000 in
set_option maxRecDepth 100000 in
theorem entries_any {b n β β2 : Nat} {E : List (Value × Nat)} {w : World} {v : Value} {F : List It} (h : Bx b n β E w) (hF : NewList β w v F) (hbβ : b < β) (hlen : ∀ e ∈ F, e.e.k.length ≤ 1099511627776 ∧ e.e.v.length ≤ 1099511627776) (hn : n + 2 * F.length ≤ 1000000) (hE : E.length ≤ 1000000)
    (hb1 : ∀ k ∈ blocks F, k < β2) (hb2 : ∀ k, v.ownBlock = some k → k < β2) (hle : β ≤ β2) (hsz : β2 ≤ w.heap.size) :
    Calls Try.prog 21 #[.pointer (some ⟨b, 0, none⟩), v] w fun e w' => e = .returned (.tuple #[]) ∧ Bx b (n + 2 * F.length) β2 (E ++ [(v, F.length)]) w' ∧ KeO b w w' := by
  obtain ⟨a, c, rfl⟩ := own_shape1 hF.own
  have HF : Hid (NewList β w (.slice a F.length c) F) := hF
  have HX : Hid (Bx b n β E w) := h
  have HLN : Hid _ := hlen
  have HB1 : Hid _ := hb1
  have HB2 : Hid (∀ k, (Value.slice a F.length c).ownBlock = some k → k < β2) := hb2
  have HI0 : Hid (Bi b (n + 2 * 0) β (blocks (F.take 0)) E w) := by
    obtain ⟨ve, vl, vw, items, was, h1, h2, h3, h4, h5⟩ := h.is
    exact ⟨ve, vl, vw, items, was, h1, h2, h3, fun i v bs k hi hk => .inl (h4 i v bs k hi hk), h5⟩
  clear h hF hlen hb1 hb2
  go_enter Try.func21, Try.ntmps21
  go_wp2_with fail
  go_loopw [4] (fun s wr => ∃ k : Nat, k ≤ F.length ∧ s = .int .i64 (k : Int) ∧ Bi b (n + 2 * k) β (blocks (F.take k)) E wr ∧ KeO b w wr) (fun s _ => F.length - (intOf s).toNat)
  case atStart => exact ⟨0, Nat.zero_le _, rfl, HI0.out, KeO.refl _ _⟩
  case round =>
    clear HI0
    obtain ⟨k, hk, rfl, hbi, hko⟩ := hrel
    have HBI : Hid _ := hbi
    have HKO : Hid _ := hko
    have hszr : β2 ≤ wr.heap.size := Nat.le_trans hsz hko.low.size
    by_cases hlt : k < F.length
    · have hltz : (k : Int) < (F.length : Int) := by omega
      obtain ⟨e, he⟩ : ∃ e, F[k]? = some e := ⟨_, List.getElem?_eq_getElem hlt⟩
      have hFr := hko.list HF.out
      have hne := hFr.ents e (List.mem_of_getElem? he)
      obtain ⟨g, rfl, f1, f2⟩ : ∃ g, a = some ⟨g, 0, none⟩ ∧ wr.cell? ⟨g, k * 2, none⟩ = some e.v1 ∧ wr.cell? ⟨g, k * 2 + 1, none⟩ = some e.v2 := by
        rcases own_row hFr.own with ⟨h, h0⟩ | ⟨g, c0, h, _, _, _, hra⟩
        · rw [h0] at hlt; simp at hlt
        · cases h
          exact ⟨g, rfl, hra.cells k e he⟩
      have HNE : Hid (NewEnt β wr e) := hne
      have hbz : b ≤ β := Nat.le_of_lt hbβ
      have hβz : β ≤ wr.heap.size := Nat.le_trans hle hszr
      have HA0 : Hid (∀ g, e.v1.ownBlock = some g → g ∉ blocks (F.take k)) := fun g hg => apart_take HF.out.apart he (blocks_one.2 (.inl hg))
      have HA1 : Hid (∀ g, e.v2.ownBlock = some g → g ∉ blocks (F.take k) ++ e.v1.ownBlock.toList) := fun g hg hm => by
        rcases List.mem_append.1 hm with h | h
        · exact apart_take HF.out.apart he (blocks_one.2 (.inr hg)) h
        · simp at h; exact HNE.out.apart g h hg
      have HLE : Hid _ := HLN.out e (List.mem_of_getElem? he)
      clear hFr hne hbi hko
      go_wp2_with fail
      refine (keep_bi HBI.out HNE.out.k HA0.out HLE.out.1 (by omega) hbz hβz).mono ?_
      rintro x w1 ⟨rfl, hb1, hk1⟩
      have HB1' : Hid _ := hb1
      have HK1 : Hid _ := HKO.out.trans hk1
      have hs1 : wr.heap.size ≤ w1.heap.size := hk1.low.size
      have HNV : Hid (NewKey β w1 e.v2 e.e.v) := (hk1.ent HNE.out).v
      have hce : w1.heap[g]? = wr.heap[g]? := by
        obtain ⟨_, _, cur, hc⟩ := own_type (HKO.out.list HF.out).own g rfl
        rw [hc]; exact hk1.any _ _ _ _ (by decide) (by decide) (by decide) hc
      have f1' : w1.cell? ⟨g, k * 2, none⟩ = some e.v1 := by rw [World.cell?_of_block (a := ⟨g, k * 2, none⟩) hce]; exact f1
      have f2' : w1.cell? ⟨g, k * 2 + 1, none⟩ = some e.v2 := by rw [World.cell?_of_block (a := ⟨g, k * 2 + 1, none⟩) hce]; exact f2
      clear hb1 hk1 f1 f2 hce
      go_wp2_with fail
      refine (keep_bi HB1'.out HNV.out HA1.out HLE.out.2 (by omega) hbz (by omega)).mono ?_
      rintro x w2 ⟨rfl, hb2, hk2⟩
      have HB2' : Hid _ := hb2
      have HK2 : Hid _ := HK1.out.trans hk2
      clear hb2 hk2 f1' f2'
      go_wp2_with fail
      refine ⟨⟨k + 1, by omega, by go_num, ?_, HK2.out⟩, by simp [intOf]; omega⟩
      have := HB2'.out
      obtain ⟨ve, vl, vw, items, was, h1, h2, h3, h4, h5⟩ := this.is
      refine ⟨ve, vl, vw, items, was, h1, by omega, h3, fun i v bs kk hi hkk => ?_, h5⟩
      rcases h4 i v bs kk hi hkk with h | h
      · exact .inl h
      · refine .inr ?_
        rw [blocks_next he, List.mem_append]
        rcases List.mem_append.1 h with h | h
        · rcases List.mem_append.1 h with h | h
          · exact .inl h
          · simp at h; exact .inr (blocks_one.2 (.inl h))
        · simp at h; exact .inr (blocks_one.2 (.inr h))
    · have hltz : ¬ (k : Int) < (F.length : Int) := by omega
      obtain ⟨i0, hi, hz0, hz1, hz2⟩ := infoEs3
      have hkF : k = F.length := by omega
      subst hkF
      obtain ⟨ve, vl, vw, items, was, h1, h2, h3, h4, h5⟩ := hbi.is
      have HBO : Hid (Book ve wr b b vl vw items was) := h1
      have HIS : Hid (items.length = n + 2 * F.length ∧ (∀ (i : Nat) v bs, items[i]? = some (v, bs) → bs.length ≤ 1099511627776) ∧
    (∀ (i : Nat) v bs k, items[i]? = some (v, bs) → v.ownBlock = some k → k < β ∨ k ∈ blocks (F.take F.length))) := ⟨h2, h3, h4⟩
      have HRE : Hid (wr.ownsRow b 25 1 ve E.length (E.map (·.1))) := h5
      have p2 : wr.cell? ⟨b, 2, none⟩ = some ve := by rw [row_cell h1.cells]; rfl
      have pf := row_frozen h1.cells 2
      have hblt := (Array.getElem?_eq_some_iff.1 h1.cells).1
      clear hbi hko h1 h2 h3 h4 h5
      obtain ⟨wA, hwA⟩ : ∃ wA, wA = wr.alloc (.cells #[.slice a F.length c] 25) := ⟨_, rfl⟩
      have HBA : Hid (Below wr.heap.size wr wA) := by rw [hwA]; exact (Below.refl _ _).alloc (Nat.le_refl _) _
      have HLA : Hid (wA.ownsRow b 25 1 ve E.length (E.map (·.1))) := own_same HRE.out fun k _ hk => HBA.out.block k hk
      have HNW : Hid (∀ (j : Nat) (u : Value), [Value.slice a F.length c][j]? = some u → wA.cell? ((⟨wr.heap.size, 0, none⟩ : Addr).add j) = some u) := fun j u hj => by
        rw [add_at, row_cell (by rw [hwA]; exact heap_alloc_last wr _)]
        simpa using hj
      have HWA : Hid (wr.alloc (.cells #[.slice a F.length c] 25) = wA) := hwA.symm
      clear hwA
      go_wp2_with (first
        | (at_builtin; rw [HWA.out]; refine wpList_append_lies _ rfl _ _ 29 rfl b 25 i0 (.slice none 0 0) 1 24 Try.underlying29 hi hz0 hz1 hz2 rfl (by decide) ve E.length (E.map (·.1)) rfl HLA.out ⟨wr.heap.size, 0, none⟩ 1 1 [.slice a F.length c] rfl rfl HNW.out (slice_oneB _ _ _) (by decide) (by unfold maxLen; omega) (by omega) (Nat.le_of_lt (Nat.lt_of_lt_of_le hblt HBA.out.size)) _ rfl ?_
           intro g1 c1 w1 ho1 hg1 hat1 hlt1
           have HO1 : Hid (w1.ownsRow b 25 1 (.slice (some ⟨g1, 0, none⟩) (E.length + 1) c1) (E.length + 1) (E.map (·.1) ++ [.slice a F.length c])) := ho1
           have HG1 : Hid (wA.grownBy w1 ve.ownBlock) := hg1
           have hne1 : ve.ownBlock ≠ some b := fun q => by
             obtain ⟨_, _, cur, hc⟩ := own_type HRE.out b q
             exact absurd (tagB_ne hc HBO.out.cells) (by decide)
           have HB1' : Hid (w1.heap[b]? = some (.cells #[vl, vw, ve] 31 (0, 0))) := by
             rw [Hid, hg1.block b (Nat.lt_of_lt_of_le hblt HBA.out.size) (fun e => hne1 e.symm), HBA.out.block b hblt]
             exact HBO.out.cells
           have q2 : w1.cell? ⟨b, 2, none⟩ = some ve := by rw [row_cell HB1'.out]; rfl
           have qf := row_frozen HB1'.out 2
           have HAT1 : Hid (ve.ownBlock = some g1 ∨ g1 = wA.heap.size) := hat1
           clear ho1 hg1 hat1 hlt1))
      go_end0
      refine ⟨rfl, ?_⟩
      have hbz : b ≤ wA.heap.size := Nat.le_of_lt (Nat.lt_of_lt_of_le hblt HBA.out.size)
      exact ⟨ent_bx HX.out HF.out hbβ hle (by omega) HKO.out HBO.out HIS.out.1 HIS.out.2.1 (fun i v bs kk hi hk => (HIS.out.2.2 i v bs kk hi hk).imp id (fun h => by rw [List.take_length] at h; exact h)) HB1.out HB2.out (ent_same HBO.out HRE.out HBA.out HG1.out) (ent_keo HBO.out HRE.out HBA.out HG1.out) HB1'.out HO1.out hne1, HKO.out.trans (ent_keo HBO.out HRE.out HBA.out HG1.out)⟩
end Go.Proofs.Ytgifnaahahfhbaa
