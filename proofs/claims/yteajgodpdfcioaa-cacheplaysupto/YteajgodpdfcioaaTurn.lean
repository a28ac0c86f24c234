/- A thing turned in place, and put in again: plain lists. -/
import Derived.Test.YteajgodpdfcioaaMade
namespace Go.Proofs.Yteajgodpdfcioaa
open Go.RowKit Go.Maps
section
variable {X Y : Type} {R : Th X → Th Y → Prop} {s : Ca X} {s' : Ca Y}
/-- Alike but for the things of one number. -/
def But (R : Th X → Th Y → Prop) (n : Int) : Th X → Th Y → Prop := fun t u => t.n = u.n ∧ t.pins = u.pins ∧ (t.n ≠ n → R t u)
theorem But.fair (f : Fair R) (n : Int) : Fair (But R n) := ⟨fun _ _ h => h.1, fun _ _ h => h.2.1, fun t u k h => ⟨h.1, rfl, fun e => f.turn t u k (h.2.2 e)⟩⟩
theorem Alike.but (h : Alike R s s') (f : Fair R) (n : Int) : Alike (But R n) s s' := ⟨h.places, h.hits, h.misses, h.L.mono fun t u _ _ r => ⟨f.n t u r, f.pins t u r, fun _ => r⟩⟩
theorem Alike.put_but {n : Int} {x : X} {y : Y} (h : Alike (But R n) s s') (f : Fair R) (hh : s.has n = true) (hn : ∀ k, R ⟨n, x, k⟩ ⟨n, y, k⟩) : Alike R (s.put n x) (s'.put n y) := by
  have hfind := h.find (But.fair f n) n
  have hout := h.out (But.fair f n) n
  have h2 := h.places
  have h3 := h.hits
  have h4 := h.misses
  unfold Ca.has at hh
  rcases hfind with ⟨h1, _⟩ | ⟨t, u, e1, e2, r⟩
  · rw [h1] at hh
    simp at hh
  · have k := hn t.pins
    have n1 : t.n = n := (find_some e1).2
    have n2 : u.n = n := (find_some e2).2
    have n3 := r.2.1
    unfold Ca.put
    rw [e1, e2]
    refine ⟨h2, h3, h4, All2.append (hout.mono fun a b ha _ r => r.2.2 (by simpa [outT] using (List.mem_filter.1 ha).2)) (.one ?_)⟩
    obtain ⟨tn, tx, tp⟩ := t
    obtain ⟨un, ux, up⟩ := u
    simp at n1 n2 n3
    subst n1 n2 n3
    exact k
end
end Go.Proofs.Yteajgodpdfcioaa
