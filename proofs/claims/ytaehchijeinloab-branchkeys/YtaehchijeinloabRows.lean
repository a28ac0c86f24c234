/-
  No cell of these rows narrows 'for every input' (looked for: loops, veiled, ifaces, maps, wideKeys, modest, calm, conditions, laid).
  DERIVED. THE GIVEN ROWS OF THIS SEAT. 3 by the template 'for every input the law returns true; each argument reads behind the call as it read before'; 0 by the template 'total and deterministic' (their statements: YtaehchijeinloabTotals.lean).
  GIVEN WITH THE SEED: the statements are not yours to turn. If you find one false, say at which input.
  Laid BY PROGRAM, IN A SANDBOX (cutbox-rows.mjs): the forced cells as the released guide's own fill.sh prints them over the translation 4b67d389c9906492… (all of the seat's roots in one cut). By AI agents, Wed Nov 11 2026. No macro, syntax, notation, axiom, sorry.
-/
import Derived.Test.YtaehchijeinloabChecked
import GoSem.Claim
import GoSem.ClaimJoined
import GoSem.ClaimMapViews
import Derived.JoinedTies
import Derived.KernelRfl
namespace Go.Proofs.Ytaehchijeinloab
/- THE CELL 'sum', in the pinned program and in every row, IS THE sha256 OF THE DUMP (.gsa) THAT YtaehchijeinloabProg.lean LOADS. Nothing in Lean hashes anything: it is a label: what it is worth is what the hold of that sum in a sandbox is worth. -/
noncomputable def Try.pinned : Pinned := { name := "ytaehchijeinloab", sum := "4b67d389c9906492af01b2f1b5bc4a57dcd7b2983b9be804177c2e29ace1c368", checked := Try.checked }
namespace Rows
def none {H : Type} : Left H := { results := [], args := [] }

/-- 'banyanlaw06.BranchKeys': WHATEVER THE INPUT: true; the input reads as it did. -/
def branchKeysSpec : ChangeSpec := { name := "branchKeys", fn := fun _ => fun
  | [d1, d2, d3, d4] => { results := [.lit (.bool true)], args := [d1, d2, d3, d4] }
  | _ => none }
def branchKeysRow : OpenClaim := { program := "ytaehchijeinloab", sum := "4b67d389c9906492af01b2f1b5bc4a57dcd7b2983b9be804177c2e29ace1c368", func := "banyan/banyanlaw06.BranchKeys", spec := "branchKeys", unfollowed := true, recurses := true, apart := false }
def BranchKeysSaid : Prop := branchKeysRow.holds Try.pinned (OpenSpec.ofChange branchKeysSpec)

/-- ITS FALSE NEIGHBOUR: 'it returns false'. Refute it at one input. -/
def branchKeysWrong : ChangeSpec := { name := "branchKeys", fn := fun _ => fun
  | [d1, d2, d3, d4] => { results := [.lit (.bool false)], args := [d1, d2, d3, d4] }
  | _ => none }
def BranchKeysWrongFalsely : Prop := branchKeysRow.holds Try.pinned (OpenSpec.ofChange branchKeysWrong)

/-- 'banyanlaw06.BranchStays': WHATEVER THE INPUT: true; the input reads as it did. -/
def branchStaysSpec : ChangeSpec := { name := "branchStays", fn := fun _ => fun
  | [d1, d2, d3, d4, d5, d6] => { results := [.lit (.bool true)], args := [d1, d2, d3, d4, d5, d6] }
  | _ => none }
def branchStaysRow : OpenClaim := { program := "ytaehchijeinloab", sum := "4b67d389c9906492af01b2f1b5bc4a57dcd7b2983b9be804177c2e29ace1c368", func := "banyan/banyanlaw06.BranchStays", spec := "branchStays", unfollowed := true, recurses := true, apart := false }
def BranchStaysSaid : Prop := branchStaysRow.holds Try.pinned (OpenSpec.ofChange branchStaysSpec)

/-- ITS FALSE NEIGHBOUR: 'it returns false'. Refute it at one input. -/
def branchStaysWrong : ChangeSpec := { name := "branchStays", fn := fun _ => fun
  | [d1, d2, d3, d4, d5, d6] => { results := [.lit (.bool false)], args := [d1, d2, d3, d4, d5, d6] }
  | _ => none }
def BranchStaysWrongFalsely : Prop := branchStaysRow.holds Try.pinned (OpenSpec.ofChange branchStaysWrong)

/-- 'banyanlaw06.BranchParts': WHATEVER THE INPUT: true; the input reads as it did. -/
def branchPartsSpec : ChangeSpec := { name := "branchParts", fn := fun _ => fun
  | [d1, d2, d3] => { results := [.lit (.bool true)], args := [d1, d2, d3] }
  | _ => none }
def branchPartsRow : OpenClaim := { program := "ytaehchijeinloab", sum := "4b67d389c9906492af01b2f1b5bc4a57dcd7b2983b9be804177c2e29ace1c368", func := "banyan/banyanlaw06.BranchParts", spec := "branchParts", unfollowed := true, recurses := true, apart := false }
def BranchPartsSaid : Prop := branchPartsRow.holds Try.pinned (OpenSpec.ofChange branchPartsSpec)

/-- ITS FALSE NEIGHBOUR: 'it returns false'. Refute it at one input. -/
def branchPartsWrong : ChangeSpec := { name := "branchParts", fn := fun _ => fun
  | [d1, d2, d3] => { results := [.lit (.bool false)], args := [d1, d2, d3] }
  | _ => none }
def BranchPartsWrongFalsely : Prop := branchPartsRow.holds Try.pinned (OpenSpec.ofChange branchPartsWrong)

/- THE SECOND FORM. 'bulk': how many values and letters a reading holds, each counted each time it is reached (what is shared counts as often as it is met; a slice's spare places count too). A statement '..UptoSaid' is the law's where the arguments, and the package variables that the reading takes, are together of bulk at most 1048576: NARROWER than '..Said'. Prove '..Said' where nothing that the law and all that it calls make is longer than what came in: it says more and counts as full. Else prove '..UptoSaid'. A law counts once. -/
mutual
def uptoBulk {H : Type} : DataW H → Nat
  | .lit (.string bytes) => bytes.length + 1
  | .lit _ => 1
  | .nil => 1
  | .ptr d => uptoBulk d + 1
  | .slice elems spare => uptoBulkAll elems + uptoBulkAll spare + 1
  | .agg parts => uptoBulkAll parts + 1
  | .iface _ d => uptoBulk d + 1
  | .map entries => uptoBulkEntries entries + 1
  | .held _ => 1
def uptoBulkAll {H : Type} : List (DataW H) → Nat
  | [] => 0
  | d :: r => uptoBulk d + uptoBulkAll r
def uptoBulkEntries {H : Type} : List (Lit × DataW H) → Nat
  | [] => 0
  | x :: r => uptoBulkEntry x + uptoBulkEntries r
def uptoBulkEntry {H : Type} : Lit × DataW H → Nat
  | (.string bytes, d) => bytes.length + uptoBulk d + 1
  | (_, d) => uptoBulk d + 1
 end
def uptoSmall : (H : Type) → List (DataW H) → Bool := fun _ ds => decide (uptoBulkAll ds ≤ 1048576)
def OpenSpec.upto (s : _root_.Go.ChangeSpec) : _root_.Go.OpenSpec := { _root_.Go.OpenSpec.ofChange s with cond := some uptoSmall }

/-- 'banyanlaw06.BranchKeys', WHERE WHAT IT READS IS OF BULK AT MOST 1048576: true; the input reads as it did. -/
def branchKeysUptoRow : OpenClaim := { program := "ytaehchijeinloab", sum := "4b67d389c9906492af01b2f1b5bc4a57dcd7b2983b9be804177c2e29ace1c368", func := "banyan/banyanlaw06.BranchKeys", spec := "branchKeys", unfollowed := true, recurses := true, apart := false, narrowed := true }
def BranchKeysUptoSaid : Prop := branchKeysUptoRow.holds Try.pinned (OpenSpec.upto branchKeysSpec)

/-- 'banyanlaw06.BranchStays', WHERE WHAT IT READS IS OF BULK AT MOST 1048576: true; the input reads as it did. -/
def branchStaysUptoRow : OpenClaim := { program := "ytaehchijeinloab", sum := "4b67d389c9906492af01b2f1b5bc4a57dcd7b2983b9be804177c2e29ace1c368", func := "banyan/banyanlaw06.BranchStays", spec := "branchStays", unfollowed := true, recurses := true, apart := false, narrowed := true }
def BranchStaysUptoSaid : Prop := branchStaysUptoRow.holds Try.pinned (OpenSpec.upto branchStaysSpec)

/-- 'banyanlaw06.BranchParts', WHERE WHAT IT READS IS OF BULK AT MOST 1048576: true; the input reads as it did. -/
def branchPartsUptoRow : OpenClaim := { program := "ytaehchijeinloab", sum := "4b67d389c9906492af01b2f1b5bc4a57dcd7b2983b9be804177c2e29ace1c368", func := "banyan/banyanlaw06.BranchParts", spec := "branchParts", unfollowed := true, recurses := true, apart := false, narrowed := true }
def BranchPartsUptoSaid : Prop := branchPartsUptoRow.holds Try.pinned (OpenSpec.upto branchPartsSpec)

end Rows
end Go.Proofs.Ytaehchijeinloab
