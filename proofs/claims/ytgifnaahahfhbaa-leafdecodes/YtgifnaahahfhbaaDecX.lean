/- LeafDecodes: lists that Decode tells, beside the law's Book. -/
import Derived.Test.YtgifnaahahfhbaaBkEntries
import Derived.Test.YtgifnaahahfhbaaTurnA
import Derived.Test.YtgifnaahahfhbaaRefDecE
namespace Go.Proofs.Ytgifnaahahfhbaa
open Go.RowKit

def errZ (z : Int) (b : Key) : Int := if Sized z then (if (decE z b).isSome then 0 else 55) else 1
def ansE (z : Int) (b : Key) : List En := if Sized z then (decE z b).getD [] else []
theorem ansE_small (z : Int) (b : Key) : (ansE z b).length ≤ 1024 ∧ ∀ e ∈ ansE z b, e.k.length ≤ 4096 ∧ e.v.length ≤ 4096 := by
  unfold ansE
  split
  · rename_i hz
    cases h : decE z b with
    | none => exact ⟨by simp, fun e he => by simp at he⟩
    | some l =>
      obtain ⟨_, h2, h3⟩ := checkE_ok ((decE_iff hz).1 h).1
      have hs := sized_le hz
      have hl := bytesF_length [] l
      unfold bytesE at h3
      refine ⟨by simp only [Option.getD_some]; omega, fun e he => ?_⟩
      obtain ⟨_, h4, h5⟩ := faultF_mem (p := []) h2 e he
      omega
  · exact ⟨by simp, fun e he => by simp at he⟩

theorem NewList.far {base : Nat} {w w' : World} {v : Value} {F : List It} (h : NewList base w v F) (hf : ∀ k, base ≤ k → k < w.heap.size → w'.heap[k]? = w.heap[k]?) : NewList base w' v F :=
  ⟨own_same h.own fun k hk hl => hf k (own_type h.own k hk).2.1 hl, fun e he =>
    ⟨⟨own_same (h.ents e he).k.own fun k hk hl => hf k (own_type (h.ents e he).k.own k hk).2.1 hl, (h.ents e he).k.short⟩,
     ⟨own_same (h.ents e he).v.own fun k hk hl => hf k (own_type (h.ents e he).v.own k hk).2.1 hl, (h.ents e he).v.short⟩, (h.ents e he).apart⟩, h.apart⟩

/-- A list that Decode told, in blocks between borders. -/
structure Dl (lo hi : Nat) (w : World) (v : Value) (F : List It) : Prop where
  list : NewList lo w v F
  hiB : ∀ k ∈ blocks F, k < hi
  hiV : ∀ k, v.ownBlock = some k → k < hi
  few : F.length ≤ 1024
  small : ∀ e ∈ F, e.e.k.length ≤ 4096 ∧ e.e.v.length ≤ 4096
theorem Dl.of {lo : Nat} {w : World} {v : Value} {F : List It} {z : Int} {b : Key} (h : NewList lo w v F) (hF : F.map It.e = ansE z b) : Dl lo w.heap.size w v F := by
  have hs := ansE_small z b
  rw [← hF, List.length_map] at hs
  exact ⟨h, fun k hk => (blocks_lt h.ents hk).1, fun k hk => (own_type h.own k hk).1, hs.1, fun e he => hs.2 _ (List.mem_map_of_mem he)⟩
theorem Dl.here {lo hi : Nat} {w w' : World} {v : Value} {F : List It} (h : Dl lo hi w v F) (hb : Below w.heap.size w w') : Dl lo hi w' v F := ⟨h.list.here hb, h.hiB, h.hiV, h.few, h.small⟩
theorem Dl.over {lo hi lo' hi' : Nat} {w w' : World} {v : Value} {F : List It} (h : Dl lo hi w v F) (hb : Over lo' hi' w w') (hl : hi' ≤ lo) : Dl lo hi w' v F := ⟨h.list.far fun k hk hs => hb.far k (Nat.le_trans hl hk) hs, h.hiB, h.hiV, h.few, h.small⟩
theorem Dl.keo {lo hi b : Nat} {w w' : World} {v : Value} {F : List It} (h : Dl lo hi w v F) (hb : KeO b w w') : Dl lo hi w' v F := ⟨hb.list h.list, h.hiB, h.hiV, h.few, h.small⟩
theorem Dl.listAt {lo hi : Nat} {w : World} {v : Value} {F : List It} (h : Dl lo hi w v F) : ListAt w.heap.size w v F := h.list.list (by have := h.few; omega)

/-- Decode of bytes, as the law sees it. -/
theorem decode_dl {w : World} {v : Value} {b : Key} {z : Int} (hv : KeyAt w v b) :
    Calls Try.prog 18 #[.int .i64 z, v] w fun e w' => ∃ vl F, e = .returned (.tuple #[vl, .int .i64 (errZ z b)]) ∧ Dl w.heap.size w'.heap.size w' vl F ∧ F.map It.e = ansE z b ∧ Below w.heap.size w w' :=
  (decode_any (z := z) hv).mono fun e w' h => by
    obtain ⟨vl, F, rfl, h1, h2, h3⟩ := h.is
    exact ⟨vl, F, rfl, Dl.of h1 h2, h2, h3⟩
theorem refDecode_ol {w : World} {v : Value} {b : Key} {z : Int} (hv : KeyAt w v b) :
    Calls Try.prog 19 #[.int .i64 z, v] w fun e w' => ∃ vl F, e = .returned (.tuple #[vl, .int .i64 (errZ z b)]) ∧ OutList w.heap.size w' vl F ∧ F.length ≤ 1024 ∧ F.map It.e = ansE z b ∧ Below w.heap.size w w' :=
  (refDecode_any (z := z) hv).mono fun e w' h => by
    obtain ⟨vl, F, rfl, h1, h2, h3⟩ := h.is
    have hs := (ansE_small z b).1
    have h2' : F.map It.e = ansE z b := h2
    rw [← h2', List.length_map] at hs
    exact ⟨vl, F, rfl, h1, hs, h2, h3⟩
theorem same_true {w : World} {v u : Value} {L M : List It} (h : ListAt w.heap.size w v L) (hu : ListAt w.heap.size w u M) (he : L.map It.e = M.map It.e) :
    Calls Try.prog 20 #[v, u] w fun e w' => e = .returned (.bool true) ∧ Below w.heap.size w w' :=
  (same_any h hu).mono fun e w' ⟨h1, q, h2⟩ => ⟨by rw [h1, decide_eq_true he], by rw [h2]; exact below_draws (Below.refl _ _) q⟩

theorem Bx.new {b β : Nat} {w : World} (h : w.heap[b]? = some (.cells #[.slice none 0 0, .slice none 0 0, .slice none 0 0] 31 (0, 0))) : Bx b 0 β [] w :=
  ⟨⟨.slice none 0 0, .slice none 0 0, .slice none 0 0, [], [], ⟨h, Nat.le_refl _, World.ownsRow_nil _ _ _ _, World.ownsRow_nil _ _ _ _, fun k h => (by cases h), fun i v bs h => (by simp at h), fun i v bs u h => (by simp at h), fun i j v bs v' bs' k h => (by simp at h)⟩, rfl,
    fun i v bs h => (by simp at h), fun i v bs k h => (by simp at h), World.ownsRow_nil _ _ _ _⟩, fun j v n h => (by simp at h), fun i j v n v' n' k h => (by simp at h), fun j v n h => (by simp at h), fun j v n k h => (by simp at h)⟩
theorem Bx.mono {b n β β' : Nat} {E : List (Value × Nat)} {w : World} (h : Bx b n β E w) (hb : β ≤ β') : Bx b n β' E w := by
  obtain ⟨⟨ve, vl, vw, items, was, h1, h2, h3, h4, h5⟩, h6, h7, h8, h9⟩ := h
  exact ⟨⟨ve, vl, vw, items, was, h1, h2, h3, fun i v bs k hi hk => Nat.lt_of_lt_of_le (h4 i v bs k hi hk) hb, h5⟩, h6, h7, h8, fun j v n k hj hk => Nat.lt_of_lt_of_le (h9 j v n k hj hk) hb⟩
/-- A list more. -/
theorem entries_dl {b n β lo hi : Nat} {E : List (Value × Nat)} {w : World} {v : Value} {F : List It} (h : Bx b n β E w) (hF : Dl lo hi w v F) (hb : b < lo) (hβ : β ≤ lo) (hlo : lo ≤ hi) (hhi : hi ≤ w.heap.size) (hn : n ≤ 100000) (hE : E.length ≤ 1000) :
    Calls Try.prog 21 #[.pointer (some ⟨b, 0, none⟩), v] w fun e w' => e = .returned (.tuple #[]) ∧ Bx b (n + 2 * F.length) hi (E ++ [(v, F.length)]) w' ∧ KeO b w w' := by
  have := hF.few
  exact entries_any (h.mono hβ) hF.list hb (fun e he => by have := hF.small e he; omega) (by omega) (by omega) hF.hiB hF.hiV hlo hhi
theorem bx_ends {b n β : Nat} {E : List (Value × Nat)} {w : World} (h : Bx b n β E w) (hn : n ≤ 1000000) (hE : E.length ≤ 1000) :
    Calls Try.prog 16 #[.pointer (some ⟨b, 0, none⟩)] w fun e w' => e = .returned (.bool true) ∧ Below b w w' := by
  obtain ⟨⟨ve, vl, vw, items, was, h1, h2, h3, h4, h5⟩, h6, h7, h8, h9⟩ := h
  have hbl := (Array.getElem?_eq_some_iff.1 h1.cells).1
  have hown : ∀ {W : World} {e s m : Nat} {v : Value} {xs : List Value}, OldT w W → e ≠ 5 → w.ownsRow b e s v m xs → W.ownsRow b e s v m xs := fun hO he ho => own_same ho fun k hk _ => by
    obtain ⟨_, _, cur, hc⟩ := own_type ho k hk
    rw [hc]; exact hO k cur _ he hc
  refine ends_any w b b vl vw items was h1 (Nat.le_of_lt hbl) (by omega) h3 fun W hW hO _ => ?_
  refine outer_any W b b ve E ⟨⟨vl, vw, hO _ _ _ (by decide) h1.cells⟩, hown hO (by decide) h5⟩ (fun j v m hj => ?_) h7 (Nat.le_trans (Nat.le_of_lt hbl) hW.size) (by omega) h8
  obtain ⟨xs, hx⟩ := h6 j v m hj
  rw [if_neg (Nat.not_lt_zero _)]
  exact RowM.of (hown hO (by decide) hx) _
end Go.Proofs.Ytgifnaahahfhbaa
