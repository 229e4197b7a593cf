/-
  No cell of these rows narrows 'for every input' (looked for: loops, veiled, ifaces, maps, wideKeys, modest, calm, conditions, laid).
  DERIVED. THE GIVEN ROWS OF THIS SEAT. 5 by the template 'for every input the law returns true; each argument reads behind the call as it read before'; 0 by the template 'total and deterministic' (their statements: YtpefcadlejcbbaaTotals.lean).
  GIVEN WITH THE SEED: the statements are not yours to turn. If you find one false, say at which input.
  Laid BY PROGRAM, IN A SANDBOX (cutbox-rows.mjs): the forced cells as the released guide's own fill.sh prints them over the translation 47a06c041ba13350… (all of the seat's roots in one cut). By AI agents, Wed Nov 11 2026. No macro, syntax, notation, axiom, sorry.
-/
import Derived.Test.YtpefcadlejcbbaaChecked
import GoSem.Claim
import GoSem.ClaimJoined
import GoSem.ClaimMapViews
import Derived.JoinedTies
import Derived.KernelRfl
namespace Go.Proofs.Ytpefcadlejcbbaa
/- THE CELL 'sum', in the pinned program and in every row, IS THE sha256 OF THE DUMP (.gsa) THAT YtpefcadlejcbbaaProg.lean LOADS. Nothing in Lean hashes anything: it is a label: what it is worth is what the hold of that sum in a sandbox is worth. -/
noncomputable def Try.pinned : Pinned := { name := "ytpefcadlejcbbaa", sum := "47a06c041ba133507b02895d37f4ad9304c2addb9ebe97b507afddcee6240f33", checked := Try.checked }
namespace Rows
def none {H : Type} : Left H := { results := [], args := [] }

/-- 'flittinglaw08.SketchOf': WHATEVER THE INPUT: true; the input reads as it did. -/
def sketchOfSpec : ChangeSpec := { name := "sketchOf", fn := fun _ => fun
  | [d1, d2] => { results := [.lit (.bool true)], args := [d1, d2] }
  | _ => none }
def sketchOfRow : OpenClaim := { program := "ytpefcadlejcbbaa", sum := "47a06c041ba133507b02895d37f4ad9304c2addb9ebe97b507afddcee6240f33", func := "flitting/flittinglaw08.SketchOf", spec := "sketchOf", unfollowed := true, recurses := true, apart := false }
def SketchOfSaid : Prop := sketchOfRow.holds Try.pinned (OpenSpec.ofChange sketchOfSpec)

/-- ITS FALSE NEIGHBOUR: 'it returns false'. Refute it at one input. -/
def sketchOfWrong : ChangeSpec := { name := "sketchOf", fn := fun _ => fun
  | [d1, d2] => { results := [.lit (.bool false)], args := [d1, d2] }
  | _ => none }
def SketchOfWrongFalsely : Prop := sketchOfRow.holds Try.pinned (OpenSpec.ofChange sketchOfWrong)

/-- 'flittinglaw08.SketchAlike': WHATEVER THE INPUT: true; the input reads as it did. -/
def sketchAlikeSpec : ChangeSpec := { name := "sketchAlike", fn := fun _ => fun
  | [d1, d2] => { results := [.lit (.bool true)], args := [d1, d2] }
  | _ => none }
def sketchAlikeRow : OpenClaim := { program := "ytpefcadlejcbbaa", sum := "47a06c041ba133507b02895d37f4ad9304c2addb9ebe97b507afddcee6240f33", func := "flitting/flittinglaw08.SketchAlike", spec := "sketchAlike", unfollowed := true, recurses := true, apart := false }
def SketchAlikeSaid : Prop := sketchAlikeRow.holds Try.pinned (OpenSpec.ofChange sketchAlikeSpec)

/-- ITS FALSE NEIGHBOUR: 'it returns false'. Refute it at one input. -/
def sketchAlikeWrong : ChangeSpec := { name := "sketchAlike", fn := fun _ => fun
  | [d1, d2] => { results := [.lit (.bool false)], args := [d1, d2] }
  | _ => none }
def SketchAlikeWrongFalsely : Prop := sketchAlikeRow.holds Try.pinned (OpenSpec.ofChange sketchAlikeWrong)

/-- 'flittinglaw08.SketchParts': WHATEVER THE INPUT: true; the input reads as it did. -/
def sketchPartsSpec : ChangeSpec := { name := "sketchParts", fn := fun _ => fun
  | [d1, d2, d3] => { results := [.lit (.bool true)], args := [d1, d2, d3] }
  | _ => none }
def sketchPartsRow : OpenClaim := { program := "ytpefcadlejcbbaa", sum := "47a06c041ba133507b02895d37f4ad9304c2addb9ebe97b507afddcee6240f33", func := "flitting/flittinglaw08.SketchParts", spec := "sketchParts", unfollowed := true, recurses := true, apart := false }
def SketchPartsSaid : Prop := sketchPartsRow.holds Try.pinned (OpenSpec.ofChange sketchPartsSpec)

/-- ITS FALSE NEIGHBOUR: 'it returns false'. Refute it at one input. -/
def sketchPartsWrong : ChangeSpec := { name := "sketchParts", fn := fun _ => fun
  | [d1, d2, d3] => { results := [.lit (.bool false)], args := [d1, d2, d3] }
  | _ => none }
def SketchPartsWrongFalsely : Prop := sketchPartsRow.holds Try.pinned (OpenSpec.ofChange sketchPartsWrong)

/-- 'flittinglaw04.VintPuts': WHATEVER THE INPUT: true; the input reads as it did. -/
def vintPutsSpec : ChangeSpec := { name := "vintPuts", fn := fun _ => fun
  | [d1, d2] => { results := [.lit (.bool true)], args := [d1, d2] }
  | _ => none }
def vintPutsRow : OpenClaim := { program := "ytpefcadlejcbbaa", sum := "47a06c041ba133507b02895d37f4ad9304c2addb9ebe97b507afddcee6240f33", func := "flitting/flittinglaw04.VintPuts", spec := "vintPuts", unfollowed := true, recurses := true, apart := false }
def VintPutsSaid : Prop := vintPutsRow.holds Try.pinned (OpenSpec.ofChange vintPutsSpec)

/-- ITS FALSE NEIGHBOUR: 'it returns false'. Refute it at one input. -/
def vintPutsWrong : ChangeSpec := { name := "vintPuts", fn := fun _ => fun
  | [d1, d2] => { results := [.lit (.bool false)], args := [d1, d2] }
  | _ => none }
def VintPutsWrongFalsely : Prop := vintPutsRow.holds Try.pinned (OpenSpec.ofChange vintPutsWrong)

/-- 'flittinglaw04.VintReads': WHATEVER THE INPUT: true; the input reads as it did. -/
def vintReadsSpec : ChangeSpec := { name := "vintReads", fn := fun _ => fun
  | [d1, d2] => { results := [.lit (.bool true)], args := [d1, d2] }
  | _ => none }
def vintReadsRow : OpenClaim := { program := "ytpefcadlejcbbaa", sum := "47a06c041ba133507b02895d37f4ad9304c2addb9ebe97b507afddcee6240f33", func := "flitting/flittinglaw04.VintReads", spec := "vintReads", unfollowed := true, recurses := true, apart := false }
def VintReadsSaid : Prop := vintReadsRow.holds Try.pinned (OpenSpec.ofChange vintReadsSpec)

/-- ITS FALSE NEIGHBOUR: 'it returns false'. Refute it at one input. -/
def vintReadsWrong : ChangeSpec := { name := "vintReads", fn := fun _ => fun
  | [d1, d2] => { results := [.lit (.bool false)], args := [d1, d2] }
  | _ => none }
def VintReadsWrongFalsely : Prop := vintReadsRow.holds Try.pinned (OpenSpec.ofChange vintReadsWrong)

/- THE SECOND FORM. 'bulk': how many values and letters a reading holds, each counted each time it is reached (what is shared counts as often as it is met; a slice's spare places count too). A statement '..UptoSaid' is the law's where the arguments, and the package variables that the reading takes, are together of bulk at most 1048576: NARROWER than '..Said'. Prove '..Said' where nothing that the law and all that it calls make is longer than what came in: it says more and counts as full. Else prove '..UptoSaid'. A law counts once. -/
mutual
def uptoBulk {H : Type} : DataW H → Nat
  | .lit (.string bytes) => bytes.length + 1
  | .lit _ => 1
  | .nil => 1
  | .ptr d => uptoBulk d + 1
  | .slice elems spare => uptoBulkAll elems + uptoBulkAll spare + 1
  | .agg parts => uptoBulkAll parts + 1
  | .iface _ d => uptoBulk d + 1
  | .map entries => uptoBulkEntries entries + 1
  | .held _ => 1
def uptoBulkAll {H : Type} : List (DataW H) → Nat
  | [] => 0
  | d :: r => uptoBulk d + uptoBulkAll r
def uptoBulkEntries {H : Type} : List (Lit × DataW H) → Nat
  | [] => 0
  | x :: r => uptoBulkEntry x + uptoBulkEntries r
def uptoBulkEntry {H : Type} : Lit × DataW H → Nat
  | (.string bytes, d) => bytes.length + uptoBulk d + 1
  | (_, d) => uptoBulk d + 1
 end
def uptoSmall : (H : Type) → List (DataW H) → Bool := fun _ ds => decide (uptoBulkAll ds ≤ 1048576)
def OpenSpec.upto (s : _root_.Go.ChangeSpec) : _root_.Go.OpenSpec := { _root_.Go.OpenSpec.ofChange s with cond := some uptoSmall }

/-- 'flittinglaw08.SketchOf', WHERE WHAT IT READS IS OF BULK AT MOST 1048576: true; the input reads as it did. -/
def sketchOfUptoRow : OpenClaim := { program := "ytpefcadlejcbbaa", sum := "47a06c041ba133507b02895d37f4ad9304c2addb9ebe97b507afddcee6240f33", func := "flitting/flittinglaw08.SketchOf", spec := "sketchOf", unfollowed := true, recurses := true, apart := false, narrowed := true }
def SketchOfUptoSaid : Prop := sketchOfUptoRow.holds Try.pinned (OpenSpec.upto sketchOfSpec)

/-- 'flittinglaw08.SketchAlike', WHERE WHAT IT READS IS OF BULK AT MOST 1048576: true; the input reads as it did. -/
def sketchAlikeUptoRow : OpenClaim := { program := "ytpefcadlejcbbaa", sum := "47a06c041ba133507b02895d37f4ad9304c2addb9ebe97b507afddcee6240f33", func := "flitting/flittinglaw08.SketchAlike", spec := "sketchAlike", unfollowed := true, recurses := true, apart := false, narrowed := true }
def SketchAlikeUptoSaid : Prop := sketchAlikeUptoRow.holds Try.pinned (OpenSpec.upto sketchAlikeSpec)

/-- 'flittinglaw08.SketchParts', WHERE WHAT IT READS IS OF BULK AT MOST 1048576: true; the input reads as it did. -/
def sketchPartsUptoRow : OpenClaim := { program := "ytpefcadlejcbbaa", sum := "47a06c041ba133507b02895d37f4ad9304c2addb9ebe97b507afddcee6240f33", func := "flitting/flittinglaw08.SketchParts", spec := "sketchParts", unfollowed := true, recurses := true, apart := false, narrowed := true }
def SketchPartsUptoSaid : Prop := sketchPartsUptoRow.holds Try.pinned (OpenSpec.upto sketchPartsSpec)

/-- 'flittinglaw04.VintPuts', WHERE WHAT IT READS IS OF BULK AT MOST 1048576: true; the input reads as it did. -/
def vintPutsUptoRow : OpenClaim := { program := "ytpefcadlejcbbaa", sum := "47a06c041ba133507b02895d37f4ad9304c2addb9ebe97b507afddcee6240f33", func := "flitting/flittinglaw04.VintPuts", spec := "vintPuts", unfollowed := true, recurses := true, apart := false, narrowed := true }
def VintPutsUptoSaid : Prop := vintPutsUptoRow.holds Try.pinned (OpenSpec.upto vintPutsSpec)

/-- 'flittinglaw04.VintReads', WHERE WHAT IT READS IS OF BULK AT MOST 1048576: true; the input reads as it did. -/
def vintReadsUptoRow : OpenClaim := { program := "ytpefcadlejcbbaa", sum := "47a06c041ba133507b02895d37f4ad9304c2addb9ebe97b507afddcee6240f33", func := "flitting/flittinglaw04.VintReads", spec := "vintReads", unfollowed := true, recurses := true, apart := false, narrowed := true }
def VintReadsUptoSaid : Prop := vintReadsUptoRow.holds Try.pinned (OpenSpec.upto vintReadsSpec)

end Rows
end Go.Proofs.Ytpefcadlejcbbaa
