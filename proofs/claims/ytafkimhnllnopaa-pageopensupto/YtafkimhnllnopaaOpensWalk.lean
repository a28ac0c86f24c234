/- The law PageOpens's walk. -/
import Derived.Test.YtafkimhnllnopaaRefOpen
import Derived.Test.YtafkimhnllnopaaKeepMore
namespace Go.Proofs.Ytafkimhnllnopaa
open Go.RowKit

/-- What Open answers, in one form. -/
def okK (bs : List UInt8) (number : Int) : Int := if openE bs number = 0 then (kindAt bs : Int) else 0
def okN (bs : List UInt8) (number : Int) : Int := if openE bs number = 0 then (numAt bs : Int) else 0
def okG (bs : List UInt8) (number : Int) : Int := if openE bs number = 0 then (genAt bs : Int) else 0
def okP (bs : List UInt8) (number : Int) : List UInt8 := if openE bs number = 0 then payOf bs else []
theorem okP_len (bs : List UInt8) (number : Int) : (okP bs number).length ≤ 4096 := by
  unfold okP
  split
  · rename_i h
    obtain ⟨hf, _, _⟩ := openE_zero h
    obtain ⟨_, h2, h3, h4, _, _⟩ := form_body hf
    have := sized_bounds h4
    omega
  · simp

theorem open_gen (w : World) (a : Option Addr) (l cap : Nat) (bs : List UInt8) (number : Int) (hb : BytesAt w.heap.size w a bs) (hl : bs.length = l) (hcap : l ≤ cap) (hlen : l ≤ 140737488355328) :
    Calls Try.prog 20 #[.slice a l cap, .int .i64 number] w fun e w' => ∃ v, e = .returned (.tuple #[.agg #[.int .i64 (okK bs number), .int .i64 (okN bs number), .int .u64 (okG bs number)], v, .int .i64 (openE bs number)]) ∧ w'.ownsRow w.heap.size 5 1 v (okP bs number).length ((okP bs number).map encB) ∧ Below w.heap.size w w' := by
  subst hl
  refine (open_any w a cap bs number hb hcap hlen).mono ?_
  rintro e w' ⟨hbl, hor⟩
  unfold headV at hor
  rcases hor with ⟨h, rfl⟩ | ⟨h, q, c, rfl, ho⟩
  · refine ⟨.slice none 0 0, by simp [okK, okN, okG, h], ?_, hbl⟩
    simp only [okP, if_neg h]
    exact World.ownsRow_nil _ _ _ _
  · obtain ⟨hf, _, _⟩ := openE_zero h
    have hp := (form_body hf).2.1
    refine ⟨_, by simp only [okK, okN, okG, if_pos h]; rw [h], ?_, hbl⟩
    simp only [okP, if_pos h]
    rw [hp]
    exact ho
theorem refOpen_gen (w : World) (gb l cap : Nat) (bs : List UInt8) (number : Int) (hb : BytesAt w.heap.size w (some ⟨gb, 0, none⟩) bs) (hl : bs.length = l) (hcap : l ≤ cap) (hlen : l ≤ 140737488355328) :
    Calls Try.prog 30 #[.slice (some ⟨gb, 0, none⟩) l cap, .int .i64 number] w fun e w' => ∃ v, e = .returned (.tuple #[.agg #[.int .i64 (okK bs number), .int .i64 (okN bs number), .int .u64 (okG bs number)], v, .int .i64 (openE bs number)]) ∧ w'.ownsRow w.heap.size 5 1 v (okP bs number).length ((okP bs number).map encB) ∧ Below w.heap.size w w' := by
  subst hl
  refine (refOpen_any w gb cap bs number hb hcap hlen).mono ?_
  rintro e w' ⟨hbl, hor⟩
  unfold headV at hor
  rcases hor with ⟨h, rfl⟩ | ⟨h, v, rfl, ho⟩
  · refine ⟨.slice none 0 0, by simp [okK, okN, okG, h], ?_, hbl⟩
    simp only [okP, if_neg h]
    exact World.ownsRow_nil _ _ _ _
  · obtain ⟨hf, _, _⟩ := openE_zero h
    have hp := (form_body hf).2.1
    refine ⟨_, by simp only [okK, okN, okG, if_pos h]; rw [h], ?_, hbl⟩
    simp only [okP, if_pos h]
    rw [hp]
    exact ho

theorem own_room {w : World} {base q n c : Nat} {xs : List Value} (h : w.ownsRow base 5 1 (.slice (some ⟨q, 0, none⟩) n c) n xs) : n ≤ c := by
  obtain ⟨_, h2⟩ := h
  rcases h2 with ⟨e, _⟩ | ⟨g, cap, cur, e, _, _, h5, _⟩
  · cases e
  · cases e
    omega
/-- Bytes and heads stay. -/
def Stays (w w' : World) : Prop := ∀ (k : Nat) (c : Array Value) (e : TypeId) (r : Nat × Nat), w.heap[k]? = some (.cells c e r) → e ≠ 31 → e ≠ 27 → w'.heap[k]? = some (.cells c e r)
theorem Stays.trans {a b c : World} (h : Stays a b) (k : Stays b c) : Stays a c := fun i x e r hx h1 h2 => k i x e r (h i x e r hx h1 h2) h1 h2
theorem Stays.of_below {w w' : World} (h : Below w.heap.size w w') : Stays w w' := fun i x e r hx _ _ => by rw [h.block i (Array.getElem?_eq_some_iff.1 hx).1]; exact hx
theorem Stays.row {w w' : World} (h : Stays w w') {g : Nat} {L : List UInt8} (hr : RowIs w g L) : RowIs w' g L := h g _ 5 (0, 0) hr (by decide) (by decide)
theorem Stays.own {w w' : World} (h : Stays w w') {base n : Nat} {v : Value} {xs : List Value} (ho : w.ownsRow base 5 1 v n xs) : w'.ownsRow base 5 1 v n xs := own_same ho fun k hk _ => by
  obtain ⟨_, _, c, hc⟩ := own_type ho k hk
  rw [h k c 5 (0, 0) hc (by decide) (by decide), hc]

set_option maxHeartbeats 1600000 in
set_option maxRecDepth 100000 in
theorem opened_any (w : World) (base b : Nat) (vl vw : Value) (items : List (Value × List UInt8)) (was : List Value) (H : Book w base b vl vw items was) (hfr : FreshI items w.heap.size) (hil : items.length ≤ 1000) (hbase : base ≤ w.heap.size)
    (a : Option Addr) (l cap : Nat) (bs : List UInt8) (number : Int) (hb : BytesAt w.heap.size w a bs) (hl : bs.length = l) (hcap : l ≤ cap) (hlen : l ≤ 140737488351232) (na : a = none → cap = 0) :
    Calls Try.prog 18 #[.pointer (some ⟨b, 0, none⟩), .slice a l cap, .int .i64 number] w fun e w' => e = .returned (.bool true) ∧ (∃ v vl' vw' u, Book w' base b vl' vw' (items ++ [(v, okP bs number)]) (was ++ [u]) ∧ FreshI (items ++ [(v, okP bs number)]) w'.heap.size ∧ (∀ q, v.ownBlock = some q → w.heap.size ≤ q) ∧ ∀ q, u.ownBlock = some q → w.heap.size ≤ q) ∧ Stays w w' ∧ Below base w w' := by
  have HH : Hid (Book w base b vl vw items was) := H
  have HF : Hid (FreshI items w.heap.size) := hfr
  have HB : Hid (BytesAt w.heap.size w a bs) := hb
  have HLN : Hid (bs.length = l) := hl
  have NA : Hid (a = none → cap = 0) := na
  clear H hfr hb na hl
  go_enter Try.func18, Try.ntmps18
  go_wp2_with fail
  refine (open_gen w a l cap bs number HB.out HLN.out hcap (by omega)).mono ?_
  rintro _ w1 ⟨v, rfl, hv, hb1⟩
  have V1 : Hid (w1.ownsRow w.heap.size 5 1 v (okP bs number).length ((okP bs number).map encB)) := hv
  have B1 : Hid (Below w.heap.size w w1) := hb1
  clear hv hb1
  obtain ⟨E, hE⟩ : ∃ E, E = openE bs number := ⟨_, rfl⟩
  obtain ⟨hK, hhK⟩ : ∃ hK, hK = okK bs number := ⟨_, rfl⟩
  obtain ⟨hN, hhN⟩ : ∃ hN, hN = okN bs number := ⟨_, rfl⟩
  obtain ⟨hG, hhG⟩ : ∃ hG, hG = okG bs number := ⟨_, rfl⟩
  have HE : Hid (E = openE bs number ∧ hK = okK bs number ∧ hN = okN bs number ∧ hG = okG bs number) := ⟨hE, hhK, hhN, hhG⟩
  rw [← hE, ← hhK, ← hhN, ← hhG]
  clear hE hhK hhN hhG
  go_upto_region 2 with fail
  obtain ⟨w2, hw2⟩ : ∃ w2, w2 = w1.alloc (.cells #[.int .i64 hK, .int .i64 hN, .int .u64 hG] 26) := ⟨_, rfl⟩
  have b12 : Below w1.heap.size w1 w2 := by rw [hw2]; exact (Below.refl _ _).alloc (Nat.le_refl _) _
  have B2 : Hid (Below w.heap.size w w2) := B1.out.trans (b12.mono B1.out.size)
  have V2 : Hid (w2.ownsRow w.heap.size 5 1 v (okP bs number).length ((okP bs number).map encB)) := own_here V1.out b12
  have X2 : Hid (w2.heap[w1.heap.size]? = some (.cells #[.int .i64 hK, .int .i64 hN, .int .u64 hG] 26 (0, 0))) := by rw [hw2]; exact heap_alloc_last _ _
  rw [← hw2]
  obtain ⟨h7, hh7⟩ : ∃ h7, h7 = w1.heap.size := ⟨_, rfl⟩
  rw [← hh7] at X2 ⊢
  clear hw2 b12 hh7
  have BA : Hid (Below w2.heap.size w2 (w2.alloc (.cells #[] 5))) := (Below.refl _ _).alloc (Nat.le_refl _) _
  go_wp2_with (first
    | (at_builtin; refine wpList_append_to rfl _ _ rfl w2.heap.size w2.heap.size 0 0 [] rfl (owns_empty w2) a cap l bs HLN.out rfl ((HB.out.here B2.out).here BA.out) NA.out (by omega) (by simp) ?_
       intro g3 c3 w3 ho3 hg3
       rw [Nat.zero_add, List.nil_append] at ho3
       rw [Nat.zero_add]
       have O3 : Hid (w3.ownsRow w2.heap.size 5 1 (.slice (some ⟨g3, 0, none⟩) l c3) l (bs.map encB)) := ho3
       have B23 : Hid (Below w2.heap.size w2 w3) := BA.out.grown hg3 (by simp) (fun k e => by cases e; exact Nat.le_refl _)
       clear ho3 hg3))
  refine (refOpen_gen w3 g3 l c3 bs number (bytes_row O3.out) HLN.out (own_room O3.out) (by omega)).mono ?_
  rintro _ w4 ⟨q, rfl, hq, hb4⟩
  have he := HE.out
  rw [← he.1, ← he.2.1, ← he.2.2.1, ← he.2.2.2]
  have B24 : Hid (Below w2.heap.size w2 w4) := B23.out.trans (hb4.mono B23.out.size)
  have Q4 : Hid (w4.ownsRow w3.heap.size 5 1 q (okP bs number).length ((okP bs number).map encB)) := hq
  clear he hq hb4
  go_upto_region 3 with fail
  obtain ⟨w5, hw5⟩ : ∃ w5, w5 = w4.alloc (.cells #[.int .i64 hK, .int .i64 hN, .int .u64 hG] 26) := ⟨_, rfl⟩
  have b45 : Below w4.heap.size w4 w5 := by rw [hw5]; exact (Below.refl _ _).alloc (Nat.le_refl _) _
  have B25 : Hid (Below w2.heap.size w2 w5) := B24.out.trans (b45.mono B24.out.size)
  have B5 : Hid (Below w.heap.size w w5) := B2.out.trans (B25.out.mono B2.out.size)
  have V5 : Hid (w5.ownsRow w.heap.size 5 1 v (okP bs number).length ((okP bs number).map encB)) := own_here V2.out B25.out
  have Q5 : Hid (w5.ownsRow w3.heap.size 5 1 q (okP bs number).length ((okP bs number).map encB)) := own_here Q4.out b45
  have X5 : Hid (w5.heap[h7]? = some (.cells #[.int .i64 hK, .int .i64 hN, .int .u64 hG] 26 (0, 0))) := by show _ = _; rw [B25.out.block _ (Array.getElem?_eq_some_iff.1 X2.out).1]; exact X2.out
  have Z5 : Hid (w5.heap[w4.heap.size]? = some (.cells #[.int .i64 hK, .int .i64 hN, .int .u64 hG] 26 (0, 0))) := by rw [hw5]; exact heap_alloc_last _ _
  rw [← hw5]
  obtain ⟨h10, hh10⟩ : ∃ h10, h10 = w4.heap.size := ⟨_, rfl⟩
  rw [← hh10] at Z5 ⊢
  clear hw5 b45 hh10
  have K5 : Hid (Book w5 base b vl vw items was) := HH.out.here B5.out
  have NV : Hid (∀ k, v.ownBlock = some k → w.heap.size ≤ k) := fun k hk => (own_type V1.out k hk).2.1
  have LP : Hid ((okP bs number).length ≤ 1099511627776) := Nat.le_trans (okP_len bs number) (by decide)
  go_wp2_with fail
  refine (keep_any2 w5 base b vl vw items was v (okP bs number) K5.out (own_mono V5.out hbase) (HF.out.new v NV.out) LP.out (by omega) (Nat.le_trans hbase B5.out.size)).mono ?_
  rintro _ w6 ⟨rfl, ⟨vl', vw', u, hk6, hu6⟩, hkb, hb6⟩
  have K6 : Hid (Book w6 base b vl' vw' (items ++ [(v, okP bs number)]) (was ++ [u])) := hk6
  have U6 : Hid (∀ q, u.ownBlock = some q → w.heap.size ≤ q) := fun q hq => Nat.le_trans B5.out.size (hu6 q hq)
  have S56 : Hid (Stays w5 w6) := fun k c e r hc h1 h2 => hkb.stays K5.out hc h1 h2
  have BB : Hid (Below base w w6) := (B5.out.mono hbase).trans hb6
  have FR : Hid (FreshI (items ++ [(v, okP bs number)]) w6.heap.size) := HF.out.more (Nat.le_trans B5.out.size hb6.size) v _ (fun k hk => Nat.lt_of_lt_of_le (own_type V5.out k hk).1 hb6.size)
  obtain ⟨x0, x1, x2⟩ := head_cells (S56.out _ _ _ _ X5.out (by decide) (by decide))
  obtain ⟨y0, y1, y2⟩ := head_cells (S56.out _ _ _ _ Z5.out (by decide) (by decide))
  have cv := conv_own (S56.out.own V5.out)
  have cq := conv_own (S56.out.own Q5.out)
  clear hk6 hkb hb6 hu6
  go_wp2
  go_ret
  exact ⟨rfl, ⟨v, vl', vw', u, K6.out, FR.out, NV.out, U6.out⟩, (Stays.of_below B5.out).trans S56.out, BB.out⟩

/-- A Book's bytes lie from S on. -/
def LowI (items : List (Value × List UInt8)) (was : List Value) (S : Nat) : Prop := (∀ (i : Nat) v bs k, items[i]? = some (v, bs) → v.ownBlock = some k → S ≤ k) ∧ (∀ (i : Nat) u k, was[i]? = some u → u.ownBlock = some k → S ≤ k)
theorem LowI.more {items : List (Value × List UInt8)} {was : List Value} {S S' : Nat} (h : LowI items was S) (hS : S ≤ S') (v u : Value) (bs : List UInt8) (hv : ∀ q, v.ownBlock = some q → S' ≤ q) (hu : ∀ q, u.ownBlock = some q → S' ≤ q) : LowI (items ++ [(v, bs)]) (was ++ [u]) S :=
  ⟨fun i v' bs' k hi hk => by
    rcases items_at _ _ _ _ hi with ⟨_, h'⟩ | ⟨_, h'⟩
    · exact h.1 i v' bs' k h' hk
    · cases h'; exact Nat.le_trans hS (hv k hk), fun i u' k hi hk => by
    rcases items_at _ _ _ _ hi with ⟨_, h'⟩ | ⟨_, h'⟩
    · exact h.2 i u' k h' hk
    · cases h'; exact Nat.le_trans hS (hu k hk)⟩

set_option maxHeartbeats 1600000 in
set_option maxRecDepth 100000 in
theorem opens_walk (w : World) (a a2 : Option Addr) (cap cap2 : Nat) (bs os : List UInt8) (number : Int) (hb : BytesAt w.heap.size w a bs) (hb2 : BytesAt w.heap.size w a2 os) (hcap2 : os.length ≤ cap2) (na2 : a2 = none → cap2 = 0) (hlen : bs.length ≤ 140737488351232) (hlen2 : os.length ≤ 140737488351232) :
    Calls Try.prog 5 #[.slice a bs.length cap, .slice a2 os.length cap2, .int .i64 number] w fun e w' => e = .returned (.bool true) ∧ Below w.heap.size w w' := by
  have HB : Hid (BytesAt w.heap.size w a bs) := hb
  have HB2 : Hid (BytesAt w.heap.size w a2 os) := hb2
  have NA2 : Hid (a2 = none → cap2 = 0) := na2
  clear hb hb2 na2
  go_enter Try.func5, Try.ntmps5
  go_wp2_with fail
  refine (alive_any _).mono ?_
  rintro _ w1 ⟨rfl, hb1⟩
  have B1 : Hid (Below w.heap.size w w1) := hb1
  clear hb1
  go_upto_region 3 with fail
  obtain ⟨w2, hw2⟩ : ∃ w2, w2 = w1.alloc (.cells #[.slice none 0 0, .slice none 0 0] 31) := ⟨_, rfl⟩
  have b12 : Below w1.heap.size w1 w2 := by rw [hw2]; exact (Below.refl _ _).alloc (Nat.le_refl _) _
  have K2 : Hid (Book w2 w.heap.size w1.heap.size (.slice none 0 0) (.slice none 0 0) [] []) := book_new w2 _ _ (by rw [hw2]; exact heap_alloc_last _ _) B1.out.size
  have B2 : Hid (Below w.heap.size w w2) := B1.out.trans (b12.mono B1.out.size)
  rw [← hw2]
  obtain ⟨bB, hbB⟩ : ∃ bB, bB = w1.heap.size := ⟨_, rfl⟩
  rw [← hbB] at K2 ⊢
  clear hw2 b12 hbB
  go_wp2_with fail
  refine (lent_any w2 a cap bs (HB.out.here B2.out) hlen).mono ?_
  rintro _ w3 ⟨rfl, hr3, hb3⟩
  have K3 : Hid (Book w3 w.heap.size bB (.slice none 0 0) (.slice none 0 0) [] []) := K2.out.here hb3
  have B3 : Hid (Below w.heap.size w w3) := B2.out.trans (hb3.mono B2.out.size)
  obtain ⟨gc, hgc⟩ : ∃ gc, gc = w2.heap.size := ⟨_, rfl⟩
  rw [← hgc] at hr3 ⊢
  have R3 : Hid (RowIs w3 gc (lentL bs 40)) := hr3
  have HGC : Hid (w.heap.size ≤ gc) := by rw [hgc]; exact B2.out.size
  have LT : Hid ((lentL bs 40).take bs.length = bs) := by show _ = _; simp [lentL]
  have NB : Hid (∀ k, k = gc → k < w3.heap.size) := fun k hk => by rw [hk]; exact hr3.lt
  clear hr3 hb3 hgc
  go_wp2_with fail
  refine (opened_any w3 w.heap.size bB _ _ [] [] K3.out (fun i v b q hi => by simp at hi) (by simp) B3.out.size (some ⟨gc, 0, none⟩) bs.length (bs.length + 40) bs number (by have := R3.out.bytes.take bs.length; rw [LT.out] at this; exact this) rfl (by omega) hlen (fun h => by cases h)).mono ?_
  rintro _ w4 ⟨rfl, ⟨v1, vl1, vw1, x1, hk4, hf4, hv4, hu4⟩, hs4, hb4⟩
  have K4 : Hid (Book w4 w.heap.size bB vl1 vw1 ([] ++ [(v1, okP bs number)]) ([] ++ [x1])) := hk4
  have S34 : Hid (w3.heap.size ≤ w4.heap.size) := hb4.size
  have W4 : Hid (LowI ([] ++ [(v1, okP bs number)]) ([] ++ [x1]) w3.heap.size) := LowI.more (items := []) (was := []) ⟨fun i v b k hi => by simp at hi, fun i u k hi => by simp at hi⟩ (Nat.le_refl _) v1 x1 _ hv4 hu4
  have F4 : Hid (FreshI ([] ++ [(v1, okP bs number)]) w4.heap.size) := hf4
  have R4 : Hid (RowIs w4 gc (lentL bs 40)) := hs4.row R3.out
  have B4 : Hid (Below w.heap.size w w4) := B3.out.trans hb4
  clear hk4 hf4 hs4 hb4 hv4 hu4
  go_wp2_with fail
  refine (opened_any w4 w.heap.size bB vl1 vw1 _ _ K4.out F4.out (by simp) B4.out.size a2 os.length cap2 os number (HB2.out.here B4.out) rfl hcap2 hlen2 NA2.out).mono ?_
  rintro _ w5 ⟨rfl, ⟨v2, vl2, vw2, x2, hk5, hf5, hv5, hu5⟩, hs5, hb5⟩
  have K5 : Hid (Book w5 w.heap.size bB vl2 vw2 ([] ++ [(v1, okP bs number)] ++ [(v2, okP os number)]) ([] ++ [x1] ++ [x2])) := hk5
  have S45 : Hid (w3.heap.size ≤ w5.heap.size) := Nat.le_trans S34.out hb5.size
  have W5 : Hid (LowI ([] ++ [(v1, okP bs number)] ++ [(v2, okP os number)]) ([] ++ [x1] ++ [x2]) w3.heap.size) := W4.out.more S34.out v2 x2 _ hv5 hu5
  have F5 : Hid (FreshI ([] ++ [(v1, okP bs number)] ++ [(v2, okP os number)]) w5.heap.size) := hf5
  have R5 : Hid (RowIs w5 gc (lentL bs 40)) := hs5.row R4.out
  have B5 : Hid (Below w.heap.size w w5) := B4.out.trans hb5
  clear hk5 hf5 hs5 hb5 hv5 hu5
  go_wp2_with fail
  refine (opened_any w5 w.heap.size bB vl2 vw2 _ _ K5.out F5.out (by simp) B5.out.size (some ⟨gc, 0, none⟩) bs.length (bs.length + 40) bs number (by have := R5.out.bytes.take bs.length; rw [LT.out] at this; exact this) rfl (by omega) hlen (fun h => by cases h)).mono ?_
  rintro _ w6 ⟨rfl, ⟨v3, vl3, vw3, x3, hk6, hf6, hv6, hu6⟩, hs6, hb6⟩
  have K6 : Hid (Book w6 w.heap.size bB vl3 vw3 ([] ++ [(v1, okP bs number)] ++ [(v2, okP os number)] ++ [(v3, okP bs number)]) ([] ++ [x1] ++ [x2] ++ [x3])) := hk6
  have W6 : Hid (LowI ([] ++ [(v1, okP bs number)] ++ [(v2, okP os number)] ++ [(v3, okP bs number)]) ([] ++ [x1] ++ [x2] ++ [x3]) w3.heap.size) := W5.out.more S45.out v3 x3 _ hv6 hu6
  have F6 : Hid (FreshI ([] ++ [(v1, okP bs number)] ++ [(v2, okP os number)] ++ [(v3, okP bs number)]) w6.heap.size) := hf6
  have R6 : Hid (RowIs w6 gc (lentL bs 40)) := hs6.row R5.out
  have B6 : Hid (Below w.heap.size w w6) := B5.out.trans hb6
  clear hk6 hf6 hs6 hb6 hv6 hu6
  go_wp2_with fail
  refine (back_any w.heap.size gc w w6 a cap bs (HB.out.below B6.out) HGC.out B6.out R6.out hlen).mono ?_
  rintro _ w7 ⟨rfl, hr7, hb7, hoth, hsz7⟩
  have gcl : gc < w3.heap.size := R3.out.lt
  have K7 : Hid (Book w7 w.heap.size bB vl3 vw3 ([] ++ [(v1, okP bs number)] ++ [(v2, okP os number)] ++ [(v3, okP bs number)]) ([] ++ [x1] ++ [x2] ++ [x3])) := by
    refine K6.out.moved (hoth bB fun e => ?_) (fun q hq => hoth q fun e => ?_) (fun q hq => hoth q fun e => ?_) (fun i v b' q hi hq => hoth q ?_) (fun i u q hi hq => hoth q ?_)
    · exact absurd (tag_ne (by rw [e] at *; exact R6.out) (by rw [← e]; exact K6.out.cells)) (by decide)
    · obtain ⟨_, _, c', hc'⟩ := own_type K6.out.rowL q hq
      rw [e] at hc'
      exact absurd (tag_ne R6.out hc') (by decide)
    · obtain ⟨_, _, c', hc'⟩ := own_type K6.out.rowW q hq
      rw [e] at hc'
      exact absurd (tag_ne R6.out hc') (by decide)
    · have := W6.out.1 i v b' q hi hq; omega
    · have := W6.out.2 i u q hi hq; omega
  have F7 : Hid (FreshI ([] ++ [(v1, okP bs number)] ++ [(v2, okP os number)] ++ [(v3, okP bs number)]) w7.heap.size) := by rw [hsz7]; exact F6.out
  have B7 : Hid (Below w.heap.size w w7) := hb7
  obtain ⟨P2, hP2⟩ : ∃ P2, Hid (P2 = (overL (lentL bs 40) (bs.length + 40)).take bs.length) := ⟨_, rfl⟩
  have LP2 : Hid (P2.length = bs.length) := by show _ = _; rw [hP2.out, List.length_take, overL_length, lentL_length _ _ (by omega)]; omega
  have Y7 : Hid (BytesAt w7.heap.size w7 (some ⟨gc, 0, none⟩) P2) := by rw [hP2.out]; exact hr7.bytes.take bs.length
  clear hr7 hb7 hoth hsz7 gcl
  go_wp2_with fail
  refine (opened_any w7 w.heap.size bB vl3 vw3 _ _ K7.out F7.out (by simp) B7.out.size (some ⟨gc, 0, none⟩) bs.length (bs.length + 40) P2 number Y7.out LP2.out (by omega) hlen (fun h => by cases h)).mono ?_
  rintro _ w8 ⟨rfl, ⟨v4, vl4, vw4, x4, hk8, _, _, _⟩, _, hb8⟩
  have K8 : Hid (Book w8 w.heap.size bB vl4 vw4 ([] ++ [(v1, okP bs number)] ++ [(v2, okP os number)] ++ [(v3, okP bs number)] ++ [(v4, okP P2 number)]) ([] ++ [x1] ++ [x2] ++ [x3] ++ [x4])) := hk8
  have B8 : Hid (Below w.heap.size w w8) := B7.out.trans hb8
  have LL : Hid (∀ (i : Nat) v b, ([] ++ [(v1, okP bs number)] ++ [(v2, okP os number)] ++ [(v3, okP bs number)] ++ [(v4, okP P2 number)])[i]? = some (v, b) → b.length ≤ 1099511627776) := fun i v b hi => by
    have hm := List.mem_of_getElem? hi
    simp at hm
    have h4 : (4096 : Nat) ≤ 1099511627776 := by decide
    rcases hm with ⟨_, rfl⟩ | ⟨_, rfl⟩ | ⟨_, rfl⟩ | ⟨_, rfl⟩
    · exact Nat.le_trans (okP_len bs number) h4
    · exact Nat.le_trans (okP_len os number) h4
    · exact Nat.le_trans (okP_len bs number) h4
    · exact Nat.le_trans (okP_len P2 number) h4
  clear hk8 hb8
  go_wp2_with fail
  refine (ends_any w8 w.heap.size bB vl4 vw4 _ _ K8.out B8.out.size (by simp) LL.out).mono ?_
  rintro _ w9 ⟨rfl, hb9⟩
  have B9 : Hid (Below w.heap.size w w9) := B8.out.trans hb9
  clear hb9
  go_wp2
  go_ret
  exact ⟨rfl, B9.out⟩
end Go.Proofs.Ytafkimhnllnopaa
