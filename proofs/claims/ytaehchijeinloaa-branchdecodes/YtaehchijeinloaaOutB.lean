/- What came out, as it lies: the rows by their names. -/
import Derived.Test.YtaehchijeinloaaOutK
namespace Go.Proofs.Ytaehchijeinloaa
open Go.RowKit

def rOf (vl : Value) (its : List Ko) : Ix → Option Rw
  | (0, j) => if j = 0 then some ⟨26, 2, vl, its.length, flat its⟩ else none
  | (1, j) => (its[j]?).map fun e => ⟨3, 1, e.vp, e.ps.length, e.ps.map encI⟩
  | (2, j) => (its[j]?).map fun e => ⟨27, 1, e.vk, e.F.length, e.F.map Kc.v⟩
  | (3, j) => ((keysAll its)[j]?).map fun e => ⟨5, 1, e.v, e.k.length, e.k.map encB⟩
  | (_ + 4, _) => none
/-- Kids of new memory, all of it between two borders. -/
structure NewKo (lo hi : Nat) (w : World) (e : Ko) : Prop where
  p : NewInts lo w e.vp e.ps
  k : NewKeys lo w e.vk e.F
  tp : ∀ k, e.vp.ownBlock = some k → k < hi
  tk : ∀ k, e.vk.ownBlock = some k → k < hi
  ty : ∀ k, k ∈ blocks e.F → k < hi
theorem NewKo.of {lo : Nat} {w : World} {e : Ko} (h1 : NewInts lo w e.vp e.ps) (h2 : NewKeys lo w e.vk e.F) : NewKo lo w.heap.size w e :=
  ⟨h1, h2, fun k hk => (own_type h1.own k hk).1, fun k hk => (own_type h2.own k hk).1, fun k hk => by
    obtain ⟨y, hy, hyb⟩ := mem_blocks hk
    exact (own_type (h2.keys y hy).1 k hyb).1⟩
theorem NewKo.move {lo hi : Nat} {w w' : World} {e : Ko} (h : NewKo lo hi w e) (hs : ∀ k, lo ≤ k → k < hi → w'.heap[k]? = w.heap[k]?) : NewKo lo hi w' e :=
  ⟨⟨own_same h.p.own fun k hk _ => hs k (own_type h.p.own k hk).2.1 (h.tp k hk)⟩, ⟨own_same h.k.own fun k hk _ => hs k (own_type h.k.own k hk).2.1 (h.tk k hk), fun x hx => ⟨own_same (h.k.keys x hx).1 fun k hk _ => hs k (own_type (h.k.keys x hx).1 k hk).2.1 (h.ty k (List.mem_filterMap.2 ⟨x, hx, hk⟩)), (h.k.keys x hx).2⟩, h.k.apart⟩, h.tp, h.tk, h.ty⟩
theorem blocks_inj : ∀ {F : List Kc} {i j : Nat} {x y : Kc} {k : Nat}, (blocks F).Nodup → F[i]? = some x → F[j]? = some y → x.v.ownBlock = some k → y.v.ownBlock = some k → i = j
  | [], i, j, x, y, k, _, hi, _, _, _ => by cases hi
  | a :: F, i, j, x, y, k, hn, hi, hj, hx, hy => by
    have key : ∀ {n : Nat} {z : Kc}, F[n]? = some z → z.v.ownBlock = some k → a.v.ownBlock = some k → False := fun hz hzk hak => by
      have h1 : blocks (a :: F) = k :: blocks F := by unfold blocks; rw [List.filterMap_cons, hak]
      rw [h1, List.nodup_cons] at hn
      exact hn.1 (List.mem_filterMap.2 ⟨_, List.mem_of_getElem? hz, hzk⟩)
    have hn2 : (blocks F).Nodup := by
      unfold blocks at hn ⊢
      rw [List.filterMap_cons] at hn
      split at hn
      · exact hn
      · exact (List.nodup_cons.1 hn).2
    match i, j, hi, hj with
    | 0, 0, _, _ => rfl
    | 0, j + 1, hi, hj =>
      rw [List.getElem?_cons_zero] at hi
      cases hi
      rw [List.getElem?_cons_succ] at hj
      exact (key hj hy hx).elim
    | i + 1, 0, hi, hj =>
      rw [List.getElem?_cons_zero] at hj
      cases hj
      rw [List.getElem?_cons_succ] at hi
      exact (key hi hx hy).elim
    | i + 1, j + 1, hi, hj =>
      rw [List.getElem?_cons_succ] at hi hj
      rw [blocks_inj hn2 hi hj hx hy]
theorem keysAll_nodup {w : World} : ∀ (its : List Ko) (lo hi : Nat → Nat), (∀ j e, its[j]? = some e → NewKo (lo j) (hi j) w e) → (∀ i j, i < j → j < its.length → hi i ≤ lo j) → (blocks (keysAll its)).Nodup
  | [], _, _, _, _ => by simp [keysAll, blocks]
  | e :: l, lo, hi, hk, hd => by
    have h1 := hk 0 e rfl
    have h2 := keysAll_nodup l (fun j => lo (j + 1)) (fun j => hi (j + 1)) (fun j x hx => hk (j + 1) x (by rw [List.getElem?_cons_succ]; exact hx)) (fun i j hij hj => hd (i + 1) (j + 1) (by omega) (by simp; omega))
    show (blocks (e.F ++ keysAll l)).Nodup
    rw [blocks_append, List.nodup_append]
    refine ⟨h1.k.apart, h2, fun a ha b hb hab => ?_⟩
    subst hab
    obtain ⟨y, hy, hyb⟩ := mem_blocks hb
    obtain ⟨x, hx, hxy⟩ := List.mem_flatMap.1 hy
    obtain ⟨j, hj⟩ := List.getElem?_of_mem hx
    have h3 := hk (j + 1) x (by rw [List.getElem?_cons_succ]; exact hj)
    have h4 := (own_type (h3.k.keys y hxy).1 a hyb).2.1
    have h5 := h1.ty a ha
    have h6 := hd 0 (j + 1) (by omega) (by have := (List.getElem?_eq_some_iff.1 hj).1; simp; omega)
    omega
theorem es_build {b : Nat} {w : World} {vl vw : Value} {its : List Ko} {ys : List Value} (hS : OutS b w vl vw its.length (flat its) ys) (lo hi : Nat → Nat) (hk : ∀ j e, its[j]? = some e → NewKo (lo j) (hi j) w e) (hlo : ∀ j, b + 1 ≤ lo j) (hd : ∀ i j, i < j → j < its.length → hi i ≤ lo j) :
    Es b w w (rOf vl its) vl vw its := by
  have hno := keysAll_nodup its lo hi hk hd
  have hkey : ∀ (n : Nat) (x : Kc), (keysAll its)[n]? = some x → NewKey (b + 1) w x.v x.k := fun n x hx => by
    obtain ⟨e, he, hxe⟩ := List.mem_flatMap.1 (List.mem_of_getElem? hx)
    obtain ⟨j, hj⟩ := List.getElem?_of_mem he
    exact ((hk j e hj).k.keys x hxe).mono (hlo j)
  have own : ∀ i x, rOf vl its i = some x → x.Own (b + 1) w := fun i x hx => by
    obtain ⟨k, j⟩ := i
    match k, hx with
    | 0, hx =>
      simp only [rOf] at hx
      split at hx
      · cases hx; exact hS.ol
      · cases hx
    | 1, hx =>
      simp only [rOf] at hx
      obtain ⟨e, he, rfl⟩ := Option.map_eq_some_iff.1 hx
      exact own_mono (hk j e he).p.own (hlo j)
    | 2, hx =>
      simp only [rOf] at hx
      obtain ⟨e, he, rfl⟩ := Option.map_eq_some_iff.1 hx
      exact own_mono (hk j e he).k.own (hlo j)
    | 3, hx =>
      simp only [rOf] at hx
      obtain ⟨e, he, rfl⟩ := Option.map_eq_some_iff.1 hx
      exact (hkey j e he).1
    | k + 4, hx => cases hx
  have dis : ∀ {i j : Nat} {e e' : Ko} {k : Nat}, its[i]? = some e → its[j]? = some e' → lo i ≤ k → k < hi i → lo j ≤ k → k < hi j → i = j := fun {i j e e' k} h1 h2 h3 h4 h5 h6 => by
    rcases Nat.lt_trichotomy i j with h | h | h
    · have := hd i j h (List.getElem?_eq_some_iff.1 h2).1
      omega
    · exact h
    · have := hd j i h (List.getElem?_eq_some_iff.1 h1).1
      omega
  refine ⟨hS.box, ⟨own, fun i j x y k hi' hj' hx hy => ?_⟩, Below.refl _ _, hS.hB, by simp [rOf]⟩
  have ht : x.T = y.T := by
    obtain ⟨_, _, c1, h1⟩ := own_type (own i x hi') k hx
    obtain ⟨_, _, c2, h2⟩ := own_type (own j y hj') k hy
    exact tag_eqO h1 h2
  obtain ⟨a, i⟩ := i
  obtain ⟨c, j⟩ := j
  have tg : ∀ (a i : Nat) (x : Rw), rOf vl its (a, i) = some x → (a = 0 ∧ i = 0 ∧ x.T = 26) ∨ (a = 1 ∧ x.T = 3 ∧ ∃ e, its[i]? = some e ∧ x.v = e.vp) ∨ (a = 2 ∧ x.T = 27 ∧ ∃ e, its[i]? = some e ∧ x.v = e.vk) ∨ (a = 3 ∧ x.T = 5 ∧ ∃ e, (keysAll its)[i]? = some e ∧ x.v = e.v) := fun a i x hx => by
    match a, hx with
    | 0, hx =>
      simp only [rOf] at hx
      split at hx
      · cases hx; exact .inl ⟨rfl, by assumption, rfl⟩
      · cases hx
    | 1, hx =>
      simp only [rOf] at hx
      obtain ⟨e, he, rfl⟩ := Option.map_eq_some_iff.1 hx
      exact .inr (.inl ⟨rfl, rfl, e, he, rfl⟩)
    | 2, hx =>
      simp only [rOf] at hx
      obtain ⟨e, he, rfl⟩ := Option.map_eq_some_iff.1 hx
      exact .inr (.inr (.inl ⟨rfl, rfl, e, he, rfl⟩))
    | 3, hx =>
      simp only [rOf] at hx
      obtain ⟨e, he, rfl⟩ := Option.map_eq_some_iff.1 hx
      exact .inr (.inr (.inr ⟨rfl, rfl, e, he, rfl⟩))
    | k + 4, hx => cases hx
  rcases tg a i x hi' with ⟨rfl, rfl, e1⟩ | ⟨rfl, e1, e, he, ev⟩ | ⟨rfl, e1, e, he, ev⟩ | ⟨rfl, e1, e, he, ev⟩ <;> rcases tg c j y hj' with ⟨rfl, rfl, e2⟩ | ⟨rfl, e2, e', he', ev'⟩ | ⟨rfl, e2, e', he', ev'⟩ | ⟨rfl, e2, e', he', ev'⟩ <;> first | (rw [e1, e2] at ht; exact absurd ht (by decide)) | rfl | skip
  · rw [ev] at hx
    rw [ev'] at hy
    obtain rfl := dis he he' (own_type (hk i e he).p.own k hx).2.1 ((hk i e he).tp k hx) (own_type (hk j e' he').p.own k hy).2.1 ((hk j e' he').tp k hy)
    rfl
  · rw [ev] at hx
    rw [ev'] at hy
    obtain rfl := dis he he' (own_type (hk i e he).k.own k hx).2.1 ((hk i e he).tk k hx) (own_type (hk j e' he').k.own k hy).2.1 ((hk j e' he').tk k hy)
    rfl
  · rw [ev] at hx
    rw [ev'] at hy
    rw [blocks_inj hno he he' hx hy]
end Go.Proofs.Ytaehchijeinloaa
