/- The law's Book while lists are encoded. -/
import Derived.Test.YtgifnaahahfhbaaBkEnds
import Derived.Test.YtgifnaahahfhbaaTurnA
namespace Go.Proofs.Ytgifnaahahfhbaa
open Go.RowKit

/-- What a call leaves: all below the Book; and what lies below a border, but for the Book. -/
structure Ch (b hi : Nat) (w w' : World) : Prop where
  low : Below b w w'
  ty : Ty hi w w'
  any : ∀ (k : Nat) (cur : Array Value) (t : TypeId) z, t ≠ 31 → t ≠ 39 → w.heap[k]? = some (Obj.cells cur t z) → w'.heap[k]? = some (Obj.cells cur t z)
theorem Ch.refl (b hi : Nat) (w : World) : Ch b hi w w := ⟨Below.refl _ _, Ty.refl _ _, fun _ _ _ _ _ _ h => h⟩
theorem Ch.trans {b hi : Nat} {w w' w2 : World} (h : Ch b hi w w') (k : Ch b hi w' w2) : Ch b hi w w2 := ⟨h.low.trans k.low, h.ty.trans k.ty, fun i cur t z h1 h2 hi => k.any i cur t z h1 h2 (h.any i cur t z h1 h2 hi)⟩
theorem Ch.of {b hi : Nat} {w w' : World} (h : Below w.heap.size w w') (hb : b ≤ w.heap.size) : Ch b hi w w' := ⟨h.mono hb, Ty.of h, fun k _ _ _ _ _ hk => by rw [h.block k (Array.getElem?_eq_some_iff.1 hk).1]; exact hk⟩
theorem Ty.mono {lo hi : Nat} {w w' : World} (h : Ty hi w w') (hl : lo ≤ hi) : Ty lo w w' := ⟨fun k cur t z ht hk => h.typ k cur t z ht (Nat.lt_of_lt_of_le hk hl), h.size⟩
theorem Over.mono {lo hi hi' : Nat} {w w' : World} (h : Over lo hi w w') (hl : hi ≤ hi') : Over lo hi' w w' := ⟨h.keep, fun k hk => h.far k (Nat.le_trans hl hk)⟩
theorem LBox.ty {hi : Nat} {w w' : World} {b : Nat} {x y z : Value} (h : LBox w b x y z) (hT : Ty hi w w') (hb : b < hi) : LBox w' b x y z := ⟨hT.typ _ _ _ _ (by decide) hb h.row⟩
theorem LoanAt.lists {base : Nat} {w : World} {v : Value} {l : List En} (h : LoanAt base w v l) (hs : l.length * 48 ≤ 140737488355328) :
    ∃ gl ka kn kc va vn vc F, v = .agg #[.slice (some ⟨gl, 0, none⟩) (l.length + 2) (l.length + 2), .slice ka kn kc, .slice va vn vc] ∧ F.map It.e = l ∧ ∀ W, Ty w.heap.size w W → ListAt W.heap.size W (.slice (some ⟨gl, 0, none⟩) l.length (l.length + 2)) F := by
  obtain ⟨gl, vk, vv, Z, y1, y2, rfl, h2, h3, h4, h5, h6, h7, h8⟩ := h.is
  obtain ⟨ka, kn, kc, rfl⟩ := own_shape h4
  obtain ⟨va, vn, vc, rfl⟩ := own_shape h5
  have hzl : (Z.map Ln.it).length = l.length := by rw [← h2, List.length_map, List.length_map]
  refine ⟨gl, ka, kn, kc, va, vn, vc, Z.map Ln.it, rfl, by rw [List.map_map]; exact h2, fun W hT => ?_⟩
  have h9 := (h3.ty hT h3.lt).list (c := l.length + 2) (by omega) (fun e he => by
    obtain ⟨z, hz, rfl⟩ := List.mem_map.1 he
    exact Ln.Ok.it ⟨(h6 z hz).k.ty hT, (h6 z hz).v.ty hT⟩) (by omega)
  rw [hzl] at h9
  exact h9
theorem own_any {b hi : Nat} {w w' : World} {base n s : Nat} {T : TypeId} {v : Value} {xs : List Value} (h : w.ownsRow base T s v n xs) (hc : Ch b hi w w') (h1 : T ≠ 31) (h2 : T ≠ 39) : w'.ownsRow base T s v n xs :=
  own_same h fun k hk _ => by
    obtain ⟨_, _, cur, hr⟩ := own_type h k hk
    rw [hr]; exact hc.any _ _ _ _ h1 h2 hr
theorem KeyT.any {b hi : Nat} {w w' : World} {v : Value} {ks : Key} (h : KeyT w v ks) (hc : Ch b hi w w') : KeyT w' v ks := by
  obtain ⟨⟨a, c, h1, h2, h3, h4⟩, h5⟩ := h
  refine ⟨⟨a, c, h1, h2, h3, fun j x hj => ?_⟩, h5⟩
  obtain ⟨g, off, cur, e, hg, hx⟩ := h4 j x hj
  exact ⟨g, off, cur, e, hc.any _ _ _ _ (by decide) (by decide) hg, hx⟩
theorem OutList.any {b hi base : Nat} {w w' : World} {v : Value} {F : List It} (h : OutList base w v F) (hc : Ch b hi w w') : OutList base w' v F :=
  ⟨own_any h.own hc (by decide) (by decide), fun e he => ⟨(h.ents e he).k.any hc, (h.ents e he).v.any hc⟩⟩

/-- A Book whose lists and bytes lie behind a border. -/
structure Bk (hi b n : Nat) (w : World) : Prop where
  is : ∃ vl vw items was, Book (.slice none 0 0) w b b vl vw items was ∧ items.length = n ∧ (∀ k, vl.ownBlock = some k ∨ vw.ownBlock = some k → hi ≤ k) ∧ (∀ (i : Nat) v bs k, items[i]? = some (v, bs) → v.ownBlock = some k → hi ≤ k) ∧
    (∀ (i : Nat) u k, was[i]? = some u → u.ownBlock = some k → hi ≤ k) ∧ ∀ (i : Nat) v bs, items[i]? = some (v, bs) → bs.length ≤ 1099511627776
theorem Bk.here {hi b n : Nat} {w w' : World} (h : Bk hi b n w) (hb : Below w.heap.size w w') : Bk hi b n w' := by
  obtain ⟨vl, vw, items, was, h1, h2⟩ := h.is
  exact ⟨vl, vw, items, was, h1.here hb, h2⟩
theorem Bk.lt {hi b n : Nat} {w : World} (h : Bk hi b n w) : b < w.heap.size := by
  obtain ⟨_, _, _, _, h1, _⟩ := h.is
  exact (Array.getElem?_eq_some_iff.1 h1.cells).1
theorem Bk.over {lo hi b n : Nat} {w w' : World} (h : Bk hi b n w) (hO : Over lo hi w w') : Bk hi b n w' := by
  obtain ⟨vl, vw, items, was, h1, h2, h3, h4, h5, h6⟩ := h.is
  have hlw : was.length = items.length := by have := h1.rowW.1; simpa using this
  refine ⟨vl, vw, items, was, h1.moved ?_ (fun k hk => hO.far k (h3 k (.inl hk)) (own_type h1.rowL k hk).1) (fun k hk => hO.far k (h3 k (.inr hk)) (own_type h1.rowW k hk).1)
    (fun i v bs k hv hk => hO.far k (h4 i v bs k hv hk) (own_type (h1.item i v bs hv) k hk).1) (fun i u k hu hk => ?_), h2, h3, h4, h5, h6⟩
  · rw [h1.cells]
    exact hO.keep.typ _ _ _ _ (by decide) h1.cells
  · obtain ⟨v, bs, hv⟩ := was_at hlw rfl hu
    exact hO.far k (h5 i u k hu hk) (own_type (h1.wasI i v bs u hv hu) k hk).1
theorem Bk.new {hi b : Nat} {w : World} (h : w.heap[b]? = some (.cells #[.slice none 0 0, .slice none 0 0, .slice none 0 0] 31 (0, 0))) : Bk hi b 0 w :=
  ⟨.slice none 0 0, .slice none 0 0, [], [], ⟨h, Nat.le_refl _, World.ownsRow_nil _ _ _ _, World.ownsRow_nil _ _ _ _, fun k h => (by cases h), fun i v bs h => (by simp at h), fun i v bs u h => (by simp at h), fun i j v bs v' bs' k h => (by simp at h)⟩, rfl,
    fun k h => (by rcases h with h | h <;> cases h), fun i v bs k h => (by simp at h), fun i u k h => (by simp at h), fun i v bs h => (by simp at h)⟩
theorem bk_keep {hi b n : Nat} {w0 w : World} {v : Value} {ks : Key} (h : Bk hi b n w0) (hb : Below w0.heap.size w0 w) (hv : NewKey w0.heap.size w v ks) (hlen : ks.length ≤ 1099511627776) (hn : n ≤ 1000000) (hhi : hi ≤ w0.heap.size) :
    Calls Try.prog 35 #[.pointer (some ⟨b, 0, none⟩), v] w fun e w' => e = .returned (.tuple #[]) ∧ Bk hi b (n + 1) w' ∧ Ch b hi w w' := by
  have hlt := h.lt
  obtain ⟨vl, vw, items, was, h1, h2, h3, h4, h5, h6⟩ := h.is
  have hw := h1.here hb
  have hsz := hb.size
  refine (keep_any w b b vl vw items was v ks hw (own_mono hv.own (by omega)) (fun i v' bs' k hi' hk hk' => ?_) hlen (by omega) (by omega)).mono ?_
  · have := (own_type (h1.item i v' bs' hi') k hk').1
    have := (own_type hv.own k hk).2.1
    omega
  · rintro e w' ⟨rfl, ⟨vl', vw', was', k1, k2, u, rfl, k3⟩, k4, k5⟩
    refine ⟨rfl, ⟨vl', vw', items ++ [(v, ks)], was ++ [u], k1, by simp [h2], fun k hk => ?_, fun i v' bs' k hi' hk => ?_, fun i u' k hu hk => ?_, fun i v' bs' hi' => ?_⟩, k5, ⟨fun k cur t z ht hl hc => ?_, k5.size⟩, fun k cur t z h1' h2' hc => ?_⟩
    · rcases k2 k hk with h | h
      · exact h3 k h
      · omega
    · rcases items_at _ _ _ _ hi' with ⟨_, h⟩ | ⟨_, h⟩
      · exact h4 i v' bs' k h hk
      · cases h
        have := (own_type hv.own k hk).2.1
        omega
    · rcases items_at _ _ _ _ hu with ⟨_, h⟩ | ⟨_, h⟩
      · exact h5 i u' k h hk
      · subst h
        have := k3 k hk
        omega
    · rcases items_at _ _ _ _ hi' with ⟨_, h⟩ | ⟨_, h⟩
      · exact h6 i v' bs' h
      · cases h
        exact hlen
    · rw [k4 k (by omega) (fun e => by subst e; exact ht (tagB_ne hc hw.cells)) (fun e => by have := h3 k (.inl e); omega) (fun e => by have := h3 k (.inr e); omega)]
      exact hc
    · rw [k4 k (Array.getElem?_eq_some_iff.1 hc).1 (hw.not_b hc h1') (hw.not_l hc h2') (hw.not_w hc h2')]
      exact hc

/-- Nothing was put into the third list: it says yes. -/
theorem outer_nil {b : Nat} {w : World} (h : w.cell? ⟨b, 2, none⟩ = some (.slice none 0 0)) : Calls Try.prog 39 #[.pointer (some ⟨b, 0, none⟩)] w fun e w' => e = .returned (.bool true) ∧ Below b w w' := by
  go_enter Try.func39, Try.ntmps39
  go_wp2_with fail
  go_loopw [3] (fun i wx => i = .int .i64 0 ∧ wx = w) (fun _ _ => 0)
  case atStart => exact ⟨rfl, rfl⟩
  case round =>
    obtain ⟨rfl, rfl⟩ := hrel
    go_wp2_with fail
    go_loopw [5, 6] (fun l i wx => l = .slice none 0 0 ∧ i = .int .i64 0 ∧ wx = wr) (fun _ _ _ => 0)
    case atStart => exact ⟨rfl, rfl, rfl⟩
    case round =>
      obtain ⟨rfl, rfl, rfl⟩ := hrel
      go_wp2_with fail
      go_loopw [11] (fun i wx => i = .int .i64 0 ∧ wx = wr) (fun _ _ => 0)
      case atStart => exact ⟨rfl, rfl⟩
      case round =>
        obtain ⟨rfl, rfl⟩ := hrel
        go_wp2_with fail
        go_ret
        exact ⟨rfl, Below.refl _ _⟩
theorem bk_ends {hi b n : Nat} {w : World} (h : Bk hi b n w) (hn : n ≤ 1000000) : Calls Try.prog 16 #[.pointer (some ⟨b, 0, none⟩)] w fun e w' => e = .returned (.bool true) ∧ Below b w w' := by
  have hlt := h.lt
  obtain ⟨vl, vw, items, was, h1, h2, h3, h4, h5, h6⟩ := h.is
  exact ends_any w b b vl vw items was h1 (by omega) (by omega) h6 fun W hW hc => outer_nil hc
end Go.Proofs.Ytgifnaahahfhbaa
