/-
  No cell of these rows narrows 'for every input' (looked for: loops, veiled, ifaces, maps, wideKeys, modest, calm, conditions, laid).
  DERIVED. THE GIVEN ROWS OF THIS SEAT. 6 by the template 'for every input the law returns true; each argument reads behind the call as it read before'; 0 by the template 'total and deterministic' (their statements: YtbjjkfmdkmbcfaaTotals.lean).
  GIVEN WITH THE SEED: the statements are not yours to turn. If you find one false, say at which input.
  Laid BY PROGRAM, IN A SANDBOX (cutbox-rows.mjs): the forced cells as the released guide's own fill.sh prints them over the translation 4dee59182f12e01e… (all of the seat's roots in one cut). By AI agents, Wed Nov 11 2026. No macro, syntax, notation, axiom, sorry.
-/
import Derived.Test.YtbjjkfmdkmbcfaaChecked
import GoSem.Claim
import GoSem.ClaimJoined
import GoSem.ClaimMapViews
import Derived.JoinedTies
import Derived.KernelRfl
namespace Go.Proofs.Ytbjjkfmdkmbcfaa
/- THE CELL 'sum', in the pinned program and in every row, IS THE sha256 OF THE DUMP (.gsa) THAT YtbjjkfmdkmbcfaaProg.lean LOADS. Nothing in Lean hashes anything: it is a label: what it is worth is what the hold of that sum in a sandbox is worth. -/
noncomputable def Try.pinned : Pinned := { name := "ytbjjkfmdkmbcfaa", sum := "4dee59182f12e01e04d4e6ac1c4b67a234b13fc7b99d52fa22d9ed5f92428b6a", checked := Try.checked }
namespace Rows
def none {H : Type} : Left H := { results := [], args := [] }

/-- 'plumblinekeep.Round': WHATEVER THE INPUT: true; the input reads as it did. -/
def roundSpec : ChangeSpec := { name := "round", fn := fun _ => fun
  | [d1, d2, d3, d4] => { results := [.lit (.bool true)], args := [d1, d2, d3, d4] }
  | _ => none }
def roundRow : OpenClaim := { program := "ytbjjkfmdkmbcfaa", sum := "4dee59182f12e01e04d4e6ac1c4b67a234b13fc7b99d52fa22d9ed5f92428b6a", func := "plumbline/plumblinekeep.Round", spec := "round", inPlace := ["math.Float64frombits", "math.Float64bits", "math.archTrunc", "math.FMA"], unfollowed := true, recurses := true, apart := false }
def RoundSaid : Prop := roundRow.holds Try.pinned (OpenSpec.ofChange roundSpec)

/-- ITS FALSE NEIGHBOUR: 'it returns false'. Refute it at one input. -/
def roundWrong : ChangeSpec := { name := "round", fn := fun _ => fun
  | [d1, d2, d3, d4] => { results := [.lit (.bool false)], args := [d1, d2, d3, d4] }
  | _ => none }
def RoundWrongFalsely : Prop := roundRow.holds Try.pinned (OpenSpec.ofChange roundWrong)

/-- 'plumblinekeep.Crossed': WHATEVER THE INPUT: true; the input reads as it did. -/
def crossedSpec : ChangeSpec := { name := "crossed", fn := fun _ => fun
  | [d1, d2, d3, d4] => { results := [.lit (.bool true)], args := [d1, d2, d3, d4] }
  | _ => none }
def crossedRow : OpenClaim := { program := "ytbjjkfmdkmbcfaa", sum := "4dee59182f12e01e04d4e6ac1c4b67a234b13fc7b99d52fa22d9ed5f92428b6a", func := "plumbline/plumblinekeep.Crossed", spec := "crossed", inPlace := ["math.Float64frombits", "math.Float64bits", "math.archTrunc", "math.FMA"], unfollowed := true, recurses := true, apart := false }
def CrossedSaid : Prop := crossedRow.holds Try.pinned (OpenSpec.ofChange crossedSpec)

/-- ITS FALSE NEIGHBOUR: 'it returns false'. Refute it at one input. -/
def crossedWrong : ChangeSpec := { name := "crossed", fn := fun _ => fun
  | [d1, d2, d3, d4] => { results := [.lit (.bool false)], args := [d1, d2, d3, d4] }
  | _ => none }
def CrossedWrongFalsely : Prop := crossedRow.holds Try.pinned (OpenSpec.ofChange crossedWrong)

/-- 'plumblinekeep.Whole': WHATEVER THE INPUT: true; the input reads as it did. -/
def wholeSpec : ChangeSpec := { name := "whole", fn := fun _ => fun
  | [d1, d2, d3, d4, d5] => { results := [.lit (.bool true)], args := [d1, d2, d3, d4, d5] }
  | _ => none }
def wholeRow : OpenClaim := { program := "ytbjjkfmdkmbcfaa", sum := "4dee59182f12e01e04d4e6ac1c4b67a234b13fc7b99d52fa22d9ed5f92428b6a", func := "plumbline/plumblinekeep.Whole", spec := "whole", inPlace := ["math.Float64frombits", "math.Float64bits", "math.archTrunc", "math.FMA"], unfollowed := true, recurses := true, apart := false }
def WholeSaid : Prop := wholeRow.holds Try.pinned (OpenSpec.ofChange wholeSpec)

/-- ITS FALSE NEIGHBOUR: 'it returns false'. Refute it at one input. -/
def wholeWrong : ChangeSpec := { name := "whole", fn := fun _ => fun
  | [d1, d2, d3, d4, d5] => { results := [.lit (.bool false)], args := [d1, d2, d3, d4, d5] }
  | _ => none }
def WholeWrongFalsely : Prop := wholeRow.holds Try.pinned (OpenSpec.ofChange wholeWrong)

/-- 'plumblinekeep.Hair': WHATEVER THE INPUT: true; the input reads as it did. -/
def hairSpec : ChangeSpec := { name := "hair", fn := fun _ => fun
  | [d1, d2, d3, d4, d5, d6] => { results := [.lit (.bool true)], args := [d1, d2, d3, d4, d5, d6] }
  | _ => none }
def hairRow : OpenClaim := { program := "ytbjjkfmdkmbcfaa", sum := "4dee59182f12e01e04d4e6ac1c4b67a234b13fc7b99d52fa22d9ed5f92428b6a", func := "plumbline/plumblinekeep.Hair", spec := "hair", inPlace := ["math.Float64frombits", "math.Float64bits", "math.archTrunc", "math.FMA"], unfollowed := true, recurses := true, apart := false }
def HairSaid : Prop := hairRow.holds Try.pinned (OpenSpec.ofChange hairSpec)

/-- ITS FALSE NEIGHBOUR: 'it returns false'. Refute it at one input. -/
def hairWrong : ChangeSpec := { name := "hair", fn := fun _ => fun
  | [d1, d2, d3, d4, d5, d6] => { results := [.lit (.bool false)], args := [d1, d2, d3, d4, d5, d6] }
  | _ => none }
def HairWrongFalsely : Prop := hairRow.holds Try.pinned (OpenSpec.ofChange hairWrong)

/-- 'plumblinekeep.Nearest': WHATEVER THE INPUT: true; the input reads as it did. -/
def nearestSpec : ChangeSpec := { name := "nearest", fn := fun _ => fun
  | [d1, d2, d3, d4] => { results := [.lit (.bool true)], args := [d1, d2, d3, d4] }
  | _ => none }
def nearestRow : OpenClaim := { program := "ytbjjkfmdkmbcfaa", sum := "4dee59182f12e01e04d4e6ac1c4b67a234b13fc7b99d52fa22d9ed5f92428b6a", func := "plumbline/plumblinekeep.Nearest", spec := "nearest", inPlace := ["math.Float64frombits", "math.Float64bits", "math.archTrunc", "math.FMA"], unfollowed := true, recurses := true, apart := false }
def NearestSaid : Prop := nearestRow.holds Try.pinned (OpenSpec.ofChange nearestSpec)

/-- ITS FALSE NEIGHBOUR: 'it returns false'. Refute it at one input. -/
def nearestWrong : ChangeSpec := { name := "nearest", fn := fun _ => fun
  | [d1, d2, d3, d4] => { results := [.lit (.bool false)], args := [d1, d2, d3, d4] }
  | _ => none }
def NearestWrongFalsely : Prop := nearestRow.holds Try.pinned (OpenSpec.ofChange nearestWrong)

/-- 'plumblinekeep.Hulled': WHATEVER THE INPUT: true; the input reads as it did. -/
def hulledSpec : ChangeSpec := { name := "hulled", fn := fun _ => fun
  | [d1, d2] => { results := [.lit (.bool true)], args := [d1, d2] }
  | _ => none }
def hulledRow : OpenClaim := { program := "ytbjjkfmdkmbcfaa", sum := "4dee59182f12e01e04d4e6ac1c4b67a234b13fc7b99d52fa22d9ed5f92428b6a", func := "plumbline/plumblinekeep.Hulled", spec := "hulled", inPlace := ["math.Float64frombits", "math.Float64bits", "math.archTrunc", "math.FMA"], unfollowed := true, recurses := true, apart := false }
def HulledSaid : Prop := hulledRow.holds Try.pinned (OpenSpec.ofChange hulledSpec)

/-- ITS FALSE NEIGHBOUR: 'it returns false'. Refute it at one input. -/
def hulledWrong : ChangeSpec := { name := "hulled", fn := fun _ => fun
  | [d1, d2] => { results := [.lit (.bool false)], args := [d1, d2] }
  | _ => none }
def HulledWrongFalsely : Prop := hulledRow.holds Try.pinned (OpenSpec.ofChange hulledWrong)

/- THE SECOND FORM. 'bulk': how many values and letters a reading holds, each counted each time it is reached (what is shared counts as often as it is met; a slice's spare places count too). A statement '..UptoSaid' is the law's where the arguments, and the package variables that the reading takes, are together of bulk at most 1048576: NARROWER than '..Said'. Prove '..Said' where nothing that the law and all that it calls make is longer than what came in: it says more and counts as full. Else prove '..UptoSaid'. A law counts once. -/
mutual
def uptoBulk {H : Type} : DataW H → Nat
  | .lit (.string bytes) => bytes.length + 1
  | .lit _ => 1
  | .nil => 1
  | .ptr d => uptoBulk d + 1
  | .slice elems spare => uptoBulkAll elems + uptoBulkAll spare + 1
  | .agg parts => uptoBulkAll parts + 1
  | .iface _ d => uptoBulk d + 1
  | .map entries => uptoBulkEntries entries + 1
  | .held _ => 1
def uptoBulkAll {H : Type} : List (DataW H) → Nat
  | [] => 0
  | d :: r => uptoBulk d + uptoBulkAll r
def uptoBulkEntries {H : Type} : List (Lit × DataW H) → Nat
  | [] => 0
  | x :: r => uptoBulkEntry x + uptoBulkEntries r
def uptoBulkEntry {H : Type} : Lit × DataW H → Nat
  | (.string bytes, d) => bytes.length + uptoBulk d + 1
  | (_, d) => uptoBulk d + 1
 end
def uptoSmall : (H : Type) → List (DataW H) → Bool := fun _ ds => decide (uptoBulkAll ds ≤ 1048576)
def OpenSpec.upto (s : _root_.Go.ChangeSpec) : _root_.Go.OpenSpec := { _root_.Go.OpenSpec.ofChange s with cond := some uptoSmall }

/-- 'plumblinekeep.Round', WHERE WHAT IT READS IS OF BULK AT MOST 1048576: true; the input reads as it did. -/
def roundUptoRow : OpenClaim := { program := "ytbjjkfmdkmbcfaa", sum := "4dee59182f12e01e04d4e6ac1c4b67a234b13fc7b99d52fa22d9ed5f92428b6a", func := "plumbline/plumblinekeep.Round", spec := "round", inPlace := ["math.Float64frombits", "math.Float64bits", "math.archTrunc", "math.FMA"], unfollowed := true, recurses := true, apart := false, narrowed := true }
def RoundUptoSaid : Prop := roundUptoRow.holds Try.pinned (OpenSpec.upto roundSpec)

/-- 'plumblinekeep.Crossed', WHERE WHAT IT READS IS OF BULK AT MOST 1048576: true; the input reads as it did. -/
def crossedUptoRow : OpenClaim := { program := "ytbjjkfmdkmbcfaa", sum := "4dee59182f12e01e04d4e6ac1c4b67a234b13fc7b99d52fa22d9ed5f92428b6a", func := "plumbline/plumblinekeep.Crossed", spec := "crossed", inPlace := ["math.Float64frombits", "math.Float64bits", "math.archTrunc", "math.FMA"], unfollowed := true, recurses := true, apart := false, narrowed := true }
def CrossedUptoSaid : Prop := crossedUptoRow.holds Try.pinned (OpenSpec.upto crossedSpec)

/-- 'plumblinekeep.Whole', WHERE WHAT IT READS IS OF BULK AT MOST 1048576: true; the input reads as it did. -/
def wholeUptoRow : OpenClaim := { program := "ytbjjkfmdkmbcfaa", sum := "4dee59182f12e01e04d4e6ac1c4b67a234b13fc7b99d52fa22d9ed5f92428b6a", func := "plumbline/plumblinekeep.Whole", spec := "whole", inPlace := ["math.Float64frombits", "math.Float64bits", "math.archTrunc", "math.FMA"], unfollowed := true, recurses := true, apart := false, narrowed := true }
def WholeUptoSaid : Prop := wholeUptoRow.holds Try.pinned (OpenSpec.upto wholeSpec)

/-- 'plumblinekeep.Hair', WHERE WHAT IT READS IS OF BULK AT MOST 1048576: true; the input reads as it did. -/
def hairUptoRow : OpenClaim := { program := "ytbjjkfmdkmbcfaa", sum := "4dee59182f12e01e04d4e6ac1c4b67a234b13fc7b99d52fa22d9ed5f92428b6a", func := "plumbline/plumblinekeep.Hair", spec := "hair", inPlace := ["math.Float64frombits", "math.Float64bits", "math.archTrunc", "math.FMA"], unfollowed := true, recurses := true, apart := false, narrowed := true }
def HairUptoSaid : Prop := hairUptoRow.holds Try.pinned (OpenSpec.upto hairSpec)

/-- 'plumblinekeep.Nearest', WHERE WHAT IT READS IS OF BULK AT MOST 1048576: true; the input reads as it did. -/
def nearestUptoRow : OpenClaim := { program := "ytbjjkfmdkmbcfaa", sum := "4dee59182f12e01e04d4e6ac1c4b67a234b13fc7b99d52fa22d9ed5f92428b6a", func := "plumbline/plumblinekeep.Nearest", spec := "nearest", inPlace := ["math.Float64frombits", "math.Float64bits", "math.archTrunc", "math.FMA"], unfollowed := true, recurses := true, apart := false, narrowed := true }
def NearestUptoSaid : Prop := nearestUptoRow.holds Try.pinned (OpenSpec.upto nearestSpec)

/-- 'plumblinekeep.Hulled', WHERE WHAT IT READS IS OF BULK AT MOST 1048576: true; the input reads as it did. -/
def hulledUptoRow : OpenClaim := { program := "ytbjjkfmdkmbcfaa", sum := "4dee59182f12e01e04d4e6ac1c4b67a234b13fc7b99d52fa22d9ed5f92428b6a", func := "plumbline/plumblinekeep.Hulled", spec := "hulled", inPlace := ["math.Float64frombits", "math.Float64bits", "math.archTrunc", "math.FMA"], unfollowed := true, recurses := true, apart := false, narrowed := true }
def HulledUptoSaid : Prop := hulledUptoRow.holds Try.pinned (OpenSpec.upto hulledSpec)

end Rows
end Go.Proofs.Ytbjjkfmdkmbcfaa
