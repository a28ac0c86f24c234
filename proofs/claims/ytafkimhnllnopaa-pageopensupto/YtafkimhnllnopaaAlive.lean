/- Bytes as strings; the chapter's example, played: the law's own function 'alive' answers true. -/
import Derived.Test.YtafkimhnllnopaaOpen
import Derived.Laws.BytesArg
import Derived.Lib.SlBytesConst
namespace Go.Proofs.Ytafkimhnllnopaa
open Go.RowKit

/-- Bytes as a string. -/
def strB (bs : List UInt8) : ByteArray := ⟨bs.toArray⟩
theorem strB_nums (bs : List UInt8) : strOfNums (bs.map fun c => (c.toNat : Int)) = strB bs := by
  have e : (bs.map fun c => (c.toNat : Int)).map (fun n => UInt8.ofNat n.toNat) = bs := by
    rw [List.map_map]
    refine (List.map_congr_left (g := id) fun c _ => ?_).trans (List.map_id _)
    simp
  rw [strOfNums, e]
  rfl
theorem strB_inj {a b : List UInt8} (h : strB a = strB b) : a = b := by
  have := congrArg (fun x => x.data.toList) h
  simpa [strB] using this
theorem conv_any {B : Nat} {w : World} {a : Option Addr} {bs : List UInt8} (n cap : Nat) (hb : BytesAt B w a bs) (hn : bs.length = n) : (convert 27 9 (.slice a n cap)).run Try.prog w = .ok (.string (strB bs)) w := by
  cases a with
  | none =>
    have h0 : bs = [] := by
      cases bs with
      | nil => rfl
      | cons b r => obtain ⟨_, _, e, _⟩ := hb 0 b rfl; cases e
    subst h0
    exact run_convert_bytes_nil w 27 5 Try.underlying27 Try.underlying5 n cap 9 Try.underlying9
  | some ad =>
    have hl : (loadCells ad n).run Try.prog w = .ok ((bs.map fun c => (c.toNat : Int)).map (Value.int .u8)).toArray w := by
      have := run_loadCells_list (P := Try.prog) w ad ((bs.map fun c => (c.toNat : Int)).map (Value.int .u8)) (fun j v hj => by
        rw [List.map_map, List.getElem?_map] at hj
        cases e : bs[j]? with
        | none => rw [e] at hj; cases hj
        | some c =>
          rw [e] at hj
          obtain ⟨g, off, e1, _, hc⟩ := hb j c e
          cases e1
          rw [add_at, hc]
          simpa using hj)
      simpa [hn] using this
    rw [run_convert_bytes_string w 27 9 5 _ n cap Try.underlying27 Try.underlying5 Try.underlying9, run_bytesToString w _ n cap _ hl, foldl_push_bytes, ← strB_nums]
    simp [strOfNums, ByteArray.empty, ByteArray.emptyWithCapacity]
    rfl

def abL : List UInt8 := [97, 98]
/-- The example's first bytes. -/
theorem alive_front : (sealed 512 3 7 2 abL).take 26 = [66, 89, 3, 0, 0, 0, 0, 7, 0, 0, 0, 0, 0, 0, 0, 2, 0, 0, 0, 2, 0, 0, 0, 0, 97, 98] := by
  have e : sealed 512 3 7 2 abL = (front 3 7 2 2 ++ [97, 98]) ++ (zeros (512 - 32 - 2) ++ be 8 (rb (sumMore 0#64 (body 512 3 7 2 abL))).toNat) := by
    simp [sealed, body, abL]
  rw [e, List.take_left' (by simp [front_length])]
  decide
def abCells : Array Value := #[.int .u8 97, .int .u8 98]
theorem ab_at (w : World) : BytesAt (w.alloc (.cells abCells 5 (2, 3))).heap.size (w.alloc (.cells abCells 5 (2, 3))) (some ⟨w.heap.size, 0, none⟩) abL := fun j c hj => by
  have hl : j < 2 := (List.getElem?_eq_some_iff.1 hj).1
  refine ⟨_, _, rfl, by simp, ?_⟩
  simp only [World.cell?, heap_alloc_last, Nat.zero_add]
  rcases j with _ | _ | j
  · cases hj; rfl
  · cases hj; rfl
  · omega
theorem sized512 : sizedB ((512 : Nat) : Int) = true := by decide
theorem may37 : mayB ((3 : Nat) : Int) ((7 : Nat) : Int) = true := by decide

/-- What Open makes of a page. -/
theorem open_page (w : World) (q s : Nat) (k n g : Nat) (p : List UInt8) (number : Int) (hs : sizedB s = true) (hm : mayB k n = true) (hg : g < 18446744073709551616) (hp : p.length + 32 ≤ s) (cap : Nat) (hc : s ≤ cap) (hb : BytesAt w.heap.size w (some ⟨q, 0, none⟩) (sealed s k n g p)) :
    Calls Try.prog 20 #[.slice (some ⟨q, 0, none⟩) s cap, .int .i64 number] w fun e w' => Below w.heap.size w w' ∧
      (((n : Int) ≠ number ∧ e = .returned (.tuple #[headV 0 0 0, .slice none 0 0, .int .i64 33])) ∨
       ((n : Int) = number ∧ ∃ q' c, e = .returned (.tuple #[headV k n g, .slice (some ⟨q', 0, none⟩) p.length c, .int .i64 0]) ∧ w'.ownsRow w.heap.size 5 1 (.slice (some ⟨q', 0, none⟩) p.length c) p.length (p.map encB))) := by
  have hz := sized_bounds hs
  have hl := sealed_length s k n g p hp
  obtain ⟨h1, h2, h3, h4, h5, h6⟩ := sealed_form hs hm hg hp
  have h7 : lenAt (sealed s k n g p) = p.length := by
    have := (form_body h1).2.1
    rw [h6] at this
    exact this.symm
  have h := open_any w (some ⟨q, 0, none⟩) cap (sealed s k n g p) number hb (by omega) (by omega)
  rw [hl] at h
  refine h.mono ?_
  rintro e w' ⟨hb, hor⟩
  refine ⟨hb, ?_⟩
  by_cases hn : (n : Int) = number
  · have ho : openE (sealed s k n g p) number = 0 := by simp [openE, h1, h2, h4, hn]
    rcases hor with ⟨hc, _⟩ | ⟨_, q', c, he, hr⟩
    · exact absurd ho hc
    · rw [h3, h4, h5, h7] at he
      rw [h6, h7] at hr
      exact .inr ⟨hn, q', c, he, hr⟩
  · have ho : openE (sealed s k n g p) number = 33 := by simp [openE, h1, h2, h4, hn]
    rcases hor with ⟨hc, he⟩ | ⟨hc, _⟩
    · rw [ho] at he
      exact .inl ⟨hn, he⟩
    · rw [ho] at hc
      cases hc

theorem alive7 (w : World) (q : Nat) (hb : BytesAt w.heap.size w (some ⟨q, 0, none⟩) (sealed 512 3 7 2 abL)) :
    Calls Try.prog 20 #[.slice (some ⟨q, 0, none⟩) 512 512, .int .i64 7] w fun e w' => Below w.heap.size w w' ∧ ∃ q' c, e = .returned (.tuple #[.agg #[.int .i64 3, .int .i64 7, .int .u64 2], .slice (some ⟨q', 0, none⟩) 2 c, .int .i64 0]) ∧ w'.ownsRow w.heap.size 5 1 (.slice (some ⟨q', 0, none⟩) 2 c) 2 (abL.map encB) := by
  refine (open_page w q 512 3 7 2 abL 7 sized512 may37 (by decide) (by decide) 512 (by decide) hb).mono ?_
  rintro e w' ⟨h, hor⟩
  rcases hor with ⟨hne, _⟩ | ⟨_, q2, c2, he, hown⟩
  · exact absurd rfl hne
  · exact ⟨h, q2, c2, he, hown⟩
theorem alive8 (w : World) (q : Nat) (hb : BytesAt w.heap.size w (some ⟨q, 0, none⟩) (sealed 512 3 7 2 abL)) :
    Calls Try.prog 20 #[.slice (some ⟨q, 0, none⟩) 512 512, .int .i64 8] w fun e w' => Below w.heap.size w w' ∧ e = .returned (.tuple #[.agg #[.int .i64 0, .int .i64 0, .int .u64 0], .slice none 0 0, .int .i64 33]) := by
  refine (open_page w q 512 3 7 2 abL 8 sized512 may37 (by decide) (by decide) 512 (by decide) hb).mono ?_
  rintro e w' ⟨h, hor⟩
  rcases hor with ⟨_, he⟩ | ⟨he, _⟩
  · exact ⟨h, he⟩
  · exact absurd he (by decide)

set_option maxHeartbeats 1600000 in
set_option maxRecDepth 100000 in
theorem alive_any (w : World) : Calls Try.prog 9 #[] w fun e w' => e = .returned (.bool true) ∧ Below w.heap.size w w' := by
  obtain ⟨w0, hw0⟩ : ∃ w0, w0 = w.alloc (.cells #[.int .i64 3, .int .i64 7, .int .u64 2] 26) := ⟨_, rfl⟩
  have hb0 : Below w.heap.size w w0 := by rw [hw0]; exact (Below.refl _ _).alloc (Nat.le_refl _) _
  have hr0 : w0.heap[w.heap.size]? = some (.cells #[.int .i64 3, .int .i64 7, .int .u64 2] 26 (0, 0)) := by rw [hw0]; exact heap_alloc_last _ _
  obtain ⟨k0, k1, k2⟩ := head_cells hr0
  have hcv := Lib.run_convert_bytes_const (P := Try.prog) w0 27 5 abCells 2 2 Try.underlying27 Try.underlying5
  have hcv' : Sem.run Try.prog (convert 27 27 (.slice (some ⟨w0.heap.size, 0, none⟩) 2 2)) (w0.alloc (.cells #[.int .u8 97, .int .u8 98] 5)) = .ok (.slice (some ⟨w0.heap.size, 0, none⟩) 2 2) (w0.alloc (.cells abCells 5 (2, 3))) := hcv
  have HB0 : Hid (Below w.heap.size w w0) := hb0
  have HR0 : Hid _ := hr0
  clear hcv hb0 hr0
  go_enter Try.func9, Try.ntmps9
  go_upto_region 2 with fail
  rw [← hw0]
  clear hw0
  go_wp2_with fail
  have hseal : Calls Try.prog 11 #[.int .i64 512, .agg #[.int .i64 3, .int .i64 7, .int .u64 2], .slice (some ⟨w0.heap.size, 0, none⟩) 2 2] (w0.alloc (.cells abCells 5 (2, 3))) fun e w' => ∃ q, e = .returned (.tuple #[.slice (some ⟨q, 0, none⟩) 512 512, .int .i64 0]) ∧ (w0.alloc (.cells abCells 5 (2, 3))).heap.size ≤ q ∧ RowIs w' q (sealed 512 3 7 2 abL) ∧ Below (w0.alloc (.cells abCells 5 (2, 3))).heap.size (w0.alloc (.cells abCells 5 (2, 3))) w' :=
    seal_ok 512 3 7 2 (some ⟨w0.heap.size, 0, none⟩) 2 abL (w0.alloc (.cells abCells 5 (2, 3))) sized512 may37 (ab_at w0) (by decide)
  refine hseal.mono ?_
  rintro _ w1 ⟨q, rfl, _, hrow, hb1⟩
  have hb01 : Below w0.heap.size w0 w1 := ((Below.refl _ _).alloc (Nat.le_refl _) _).trans (hb1.mono (by simp))
  have HB01 : Hid (Below w0.heap.size w0 w1) := hb01
  have HROW : Hid (RowIs w1 q (sealed 512 3 7 2 abL)) := hrow
  have hcv26 : (convert 27 9 (.slice (some ⟨q, 0, none⟩) 26 512)).run Try.prog w1 = .ok (.string ⟨#[66, 89, 3, 0, 0, 0, 0, 7, 0, 0, 0, 0, 0, 0, 0, 2, 0, 0, 0, 2, 0, 0, 0, 0, 97, 98]⟩) w1 := by
    have h := conv_any 26 512 (hrow.bytes.take 26) (by rw [alive_front]; rfl)
    rw [alive_front] at h
    exact h
  clear hb1 hb01 hrow hseal hcv' k0 k1 k2
  go_wp2_with fail
  clear hcv26
  refine (alive7 w1 q HROW.out.bytes).mono ?_
  rintro _ w2 ⟨hb2, q2, c2, rfl, hown2⟩
  have HB02 : Hid (Below w0.heap.size w0 w2) := HB01.out.trans (hb2.mono HB01.out.size)
  have HROW2 : Hid (RowIs w2 q (sealed 512 3 7 2 abL)) := HROW.out.here hb2
  have HOWN : Hid (w2.ownsRow w1.heap.size 5 1 (.slice (some ⟨q2, 0, none⟩) 2 c2) 2 (abL.map encB)) := hown2
  clear hb2 hown2
  go_upto_region 6 with fail
  obtain ⟨w3, hw3⟩ : ∃ w3, w3 = w2.alloc (.cells #[.int .i64 3, .int .i64 7, .int .u64 2] 26) := ⟨_, rfl⟩
  rw [← hw3]
  have hb3 : Below w2.heap.size w2 w3 := by rw [hw3]; exact (Below.refl _ _).alloc (Nat.le_refl _) _
  have HX3 : Hid (w3.heap[w2.heap.size]? = some (.cells #[.int .i64 3, .int .i64 7, .int .u64 2] 26 (0, 0))) := by rw [hw3]; exact heap_alloc_last _ _
  have HROW3 : Hid (RowIs w3 q (sealed 512 3 7 2 abL)) := HROW2.out.here hb3
  have HB3 : Hid (Below w2.heap.size w2 w3) := hb3
  obtain ⟨b3, hb3e⟩ : ∃ b3, b3 = w2.heap.size := ⟨_, rfl⟩
  rw [← hb3e] at HX3 HB3 ⊢
  clear hb3 hw3
  go_wp2_with fail
  refine (alive8 w3 q HROW3.out.bytes).mono ?_
  rintro _ w4 ⟨hb4, rfl⟩
  have hbt : Below w0.heap.size w0 w4 := HB02.out.trans (((hb3e ▸ HB3.out : Below w2.heap.size w2 w3).trans (hb4.mono (hb3e ▸ HB3.out : Below w2.heap.size w2 w3).size)).mono HB02.out.size)
  have hx4 : w4.heap[b3]? = some (.cells #[.int .i64 3, .int .i64 7, .int .u64 2] 26 (0, 0)) := by rw [hb4.block _ (Array.getElem?_eq_some_iff.1 HX3.out).1]; exact HX3.out
  have hh4 : w4.heap[w.heap.size]? = some (.cells #[.int .i64 3, .int .i64 7, .int .u64 2] 26 (0, 0)) := by rw [hbt.block _ (Array.getElem?_eq_some_iff.1 HR0.out).1]; exact HR0.out
  obtain ⟨x0, x1, x2⟩ := head_cells hx4
  obtain ⟨k0, k1, k2⟩ := head_cells hh4
  have l1 : b3 < w4.heap.size := (Array.getElem?_eq_some_iff.1 hx4).1
  have l2 : w.heap.size < w4.heap.size := (Array.getElem?_eq_some_iff.1 hh4).1
  have HBW : Hid (Below w.heap.size w w4) := HB0.out.trans (hbt.mono HB0.out.size)
  have HP4 : Hid (BytesAt w4.heap.size w4 (some ⟨q2, 0, none⟩) abL) := by
    have h2 : BytesAt w2.heap.size w2 (some ⟨q2, 0, none⟩) abL := bytes_row HOWN.out
    have h3 : Below w2.heap.size w2 w4 := (hb3e ▸ HB3.out : Below w2.heap.size w2 w3).trans (hb4.mono (hb3e ▸ HB3.out : Below w2.heap.size w2 w3).size)
    exact h2.here h3
  have hcv2 : ∀ o, (convert 27 9 (.slice (some ⟨q2, 0, none⟩) 2 c2)).run Try.prog (w4.alloc o) = .ok (.string ⟨#[97, 98]⟩) (w4.alloc o) := fun o =>
    conv_any 2 c2 (HP4.out.here ((Below.refl _ _).alloc (Nat.le_refl _) o)) rfl
  clear hb4 hbt hx4 hh4 hb3e
  go_wp2
  go_ret
  exact ⟨rfl, HBW.out.alloc HBW.out.size _⟩
end Go.Proofs.Ytafkimhnllnopaa
