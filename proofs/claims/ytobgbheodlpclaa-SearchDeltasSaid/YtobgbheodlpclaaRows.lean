/-
  No cell of these rows narrows 'for every input' (looked for: loops, veiled, ifaces, maps, wideKeys, modest, calm, conditions, laid).
  DERIVED. THE GIVEN ROWS OF THIS SEAT. 12 by the template 'for every input the law returns true; each argument reads behind the call as it read before'; 0 by the template 'total and deterministic' (their statements: YtobgbheodlpclaaTotals.lean).
  GIVEN WITH THE SEED: the statements are not yours to turn. If you find one false, say at which input.
  Laid BY PROGRAM, IN A SANDBOX (cutbox-rows.mjs): the forced cells as the released guide's own fill.sh prints them over the translation b71b7d81ac1b344d… (all of the seat's roots in one cut). By AI agents, Wed Nov 11 2026. No macro, syntax, notation, axiom, sorry.
-/
import Derived.Test.YtobgbheodlpclaaChecked
import GoSem.Claim
import GoSem.ClaimJoined
import GoSem.ClaimMapViews
import Derived.JoinedTies
import Derived.KernelRfl
namespace Go.Proofs.Ytobgbheodlpclaa
/- THE CELL 'sum', in the pinned program and in every row, IS THE sha256 OF THE DUMP (.gsa) THAT YtobgbheodlpclaaProg.lean LOADS. Nothing in Lean hashes anything: it is a label: what it is worth is what the hold of that sum in a sandbox is worth. -/
noncomputable def Try.pinned : Pinned := { name := "ytobgbheodlpclaa", sum := "b71b7d81ac1b344d0394be8048cf58513bbce5c7f3306e704bf34bc6fb9f3178", checked := Try.checked }
namespace Rows
def none {H : Type} : Left H := { results := [], args := [] }

/-- 'flittinglaw15.BlockOf': WHATEVER THE INPUT: true; the input reads as it did. -/
def blockOfSpec : ChangeSpec := { name := "blockOf", fn := fun _ => fun
  | [d1, d2, d3] => { results := [.lit (.bool true)], args := [d1, d2, d3] }
  | _ => none }
def blockOfRow : OpenClaim := { program := "ytobgbheodlpclaa", sum := "b71b7d81ac1b344d0394be8048cf58513bbce5c7f3306e704bf34bc6fb9f3178", func := "flitting/flittinglaw15.BlockOf", spec := "blockOf", unfollowed := true, recurses := true, plainKeys := false, apart := false }
def BlockOfSaid : Prop := blockOfRow.holds Try.pinned (OpenSpec.ofChange blockOfSpec)

/-- ITS FALSE NEIGHBOUR: 'it returns false'. Refute it at one input. -/
def blockOfWrong : ChangeSpec := { name := "blockOf", fn := fun _ => fun
  | [d1, d2, d3] => { results := [.lit (.bool false)], args := [d1, d2, d3] }
  | _ => none }
def BlockOfWrongFalsely : Prop := blockOfRow.holds Try.pinned (OpenSpec.ofChange blockOfWrong)

/-- 'flittinglaw15.BlockPuts': WHATEVER THE INPUT: true; the input reads as it did. -/
def blockPutsSpec : ChangeSpec := { name := "blockPuts", fn := fun _ => fun
  | [d1, d2] => { results := [.lit (.bool true)], args := [d1, d2] }
  | _ => none }
def blockPutsRow : OpenClaim := { program := "ytobgbheodlpclaa", sum := "b71b7d81ac1b344d0394be8048cf58513bbce5c7f3306e704bf34bc6fb9f3178", func := "flitting/flittinglaw15.BlockPuts", spec := "blockPuts", unfollowed := true, recurses := true, plainKeys := false, apart := false }
def BlockPutsSaid : Prop := blockPutsRow.holds Try.pinned (OpenSpec.ofChange blockPutsSpec)

/-- ITS FALSE NEIGHBOUR: 'it returns false'. Refute it at one input. -/
def blockPutsWrong : ChangeSpec := { name := "blockPuts", fn := fun _ => fun
  | [d1, d2] => { results := [.lit (.bool false)], args := [d1, d2] }
  | _ => none }
def BlockPutsWrongFalsely : Prop := blockPutsRow.holds Try.pinned (OpenSpec.ofChange blockPutsWrong)

/-- 'flittinglaw15.BlockGets': WHATEVER THE INPUT: true; the input reads as it did. -/
def blockGetsSpec : ChangeSpec := { name := "blockGets", fn := fun _ => fun
  | [d] => { results := [.lit (.bool true)], args := [d] }
  | _ => none }
def blockGetsRow : OpenClaim := { program := "ytobgbheodlpclaa", sum := "b71b7d81ac1b344d0394be8048cf58513bbce5c7f3306e704bf34bc6fb9f3178", func := "flitting/flittinglaw15.BlockGets", spec := "blockGets", unfollowed := true, recurses := true, plainKeys := false, apart := false }
def BlockGetsSaid : Prop := blockGetsRow.holds Try.pinned (OpenSpec.ofChange blockGetsSpec)

/-- ITS FALSE NEIGHBOUR: 'it returns false'. Refute it at one input. -/
def blockGetsWrong : ChangeSpec := { name := "blockGets", fn := fun _ => fun
  | [d] => { results := [.lit (.bool false)], args := [d] }
  | _ => none }
def BlockGetsWrongFalsely : Prop := blockGetsRow.holds Try.pinned (OpenSpec.ofChange blockGetsWrong)

/-- 'flittinglaw15.BlockCounts': WHATEVER THE INPUT: true; the input reads as it did. -/
def blockCountsSpec : ChangeSpec := { name := "blockCounts", fn := fun _ => fun
  | [d1, d2] => { results := [.lit (.bool true)], args := [d1, d2] }
  | _ => none }
def blockCountsRow : OpenClaim := { program := "ytobgbheodlpclaa", sum := "b71b7d81ac1b344d0394be8048cf58513bbce5c7f3306e704bf34bc6fb9f3178", func := "flitting/flittinglaw15.BlockCounts", spec := "blockCounts", unfollowed := true, recurses := true, plainKeys := false, apart := false }
def BlockCountsSaid : Prop := blockCountsRow.holds Try.pinned (OpenSpec.ofChange blockCountsSpec)

/-- ITS FALSE NEIGHBOUR: 'it returns false'. Refute it at one input. -/
def blockCountsWrong : ChangeSpec := { name := "blockCounts", fn := fun _ => fun
  | [d1, d2] => { results := [.lit (.bool false)], args := [d1, d2] }
  | _ => none }
def BlockCountsWrongFalsely : Prop := blockCountsRow.holds Try.pinned (OpenSpec.ofChange blockCountsWrong)

/-- 'flittinglaw16.TokenPuts': WHATEVER THE INPUT: true; the input reads as it did. -/
def tokenPutsSpec : ChangeSpec := { name := "tokenPuts", fn := fun _ => fun
  | [d1, d2] => { results := [.lit (.bool true)], args := [d1, d2] }
  | _ => none }
def tokenPutsRow : OpenClaim := { program := "ytobgbheodlpclaa", sum := "b71b7d81ac1b344d0394be8048cf58513bbce5c7f3306e704bf34bc6fb9f3178", func := "flitting/flittinglaw16.TokenPuts", spec := "tokenPuts", inPlace := ["internal/abi.NoEscape"], unfollowed := true, recurses := true, plainKeys := false, apart := false }
def TokenPutsSaid : Prop := tokenPutsRow.holds Try.pinned (OpenSpec.ofChange tokenPutsSpec)

/-- ITS FALSE NEIGHBOUR: 'it returns false'. Refute it at one input. -/
def tokenPutsWrong : ChangeSpec := { name := "tokenPuts", fn := fun _ => fun
  | [d1, d2] => { results := [.lit (.bool false)], args := [d1, d2] }
  | _ => none }
def TokenPutsWrongFalsely : Prop := tokenPutsRow.holds Try.pinned (OpenSpec.ofChange tokenPutsWrong)

/-- 'flittinglaw16.TokenGets': WHATEVER THE INPUT: true; the input reads as it did. -/
def tokenGetsSpec : ChangeSpec := { name := "tokenGets", fn := fun _ => fun
  | [d] => { results := [.lit (.bool true)], args := [d] }
  | _ => none }
def tokenGetsRow : OpenClaim := { program := "ytobgbheodlpclaa", sum := "b71b7d81ac1b344d0394be8048cf58513bbce5c7f3306e704bf34bc6fb9f3178", func := "flitting/flittinglaw16.TokenGets", spec := "tokenGets", inPlace := ["internal/abi.NoEscape"], unfollowed := true, recurses := true, plainKeys := false, apart := false }
def TokenGetsSaid : Prop := tokenGetsRow.holds Try.pinned (OpenSpec.ofChange tokenGetsSpec)

/-- ITS FALSE NEIGHBOUR: 'it returns false'. Refute it at one input. -/
def tokenGetsWrong : ChangeSpec := { name := "tokenGets", fn := fun _ => fun
  | [d] => { results := [.lit (.bool false)], args := [d] }
  | _ => none }
def TokenGetsWrongFalsely : Prop := tokenGetsRow.holds Try.pinned (OpenSpec.ofChange tokenGetsWrong)

/-- 'flittinglaw16.TokenJoins': WHATEVER THE INPUT: true; the input reads as it did. -/
def tokenJoinsSpec : ChangeSpec := { name := "tokenJoins", fn := fun _ => fun
  | [d1, d2] => { results := [.lit (.bool true)], args := [d1, d2] }
  | _ => none }
def tokenJoinsRow : OpenClaim := { program := "ytobgbheodlpclaa", sum := "b71b7d81ac1b344d0394be8048cf58513bbce5c7f3306e704bf34bc6fb9f3178", func := "flitting/flittinglaw16.TokenJoins", spec := "tokenJoins", inPlace := ["internal/abi.NoEscape"], plainKeys := false, apart := false }
def TokenJoinsSaid : Prop := tokenJoinsRow.holds Try.pinned (OpenSpec.ofChange tokenJoinsSpec)

/-- ITS FALSE NEIGHBOUR: 'it returns false'. Refute it at one input. -/
def tokenJoinsWrong : ChangeSpec := { name := "tokenJoins", fn := fun _ => fun
  | [d1, d2] => { results := [.lit (.bool false)], args := [d1, d2] }
  | _ => none }
def TokenJoinsWrongFalsely : Prop := tokenJoinsRow.holds Try.pinned (OpenSpec.ofChange tokenJoinsWrong)

/-- 'flittinglaw17.SearchDeltas': WHATEVER THE INPUT: true; the input reads as it did. -/
def searchDeltasSpec : ChangeSpec := { name := "searchDeltas", fn := fun _ => fun
  | [d1, d2, d3] => { results := [.lit (.bool true)], args := [d1, d2, d3] }
  | _ => none }
def searchDeltasRow : OpenClaim := { program := "ytobgbheodlpclaa", sum := "b71b7d81ac1b344d0394be8048cf58513bbce5c7f3306e704bf34bc6fb9f3178", func := "flitting/flittinglaw17.SearchDeltas", spec := "searchDeltas", inPlace := ["internal/abi.NoEscape"], unfollowed := true, recurses := true, plainKeys := false, apart := false }
def SearchDeltasSaid : Prop := searchDeltasRow.holds Try.pinned (OpenSpec.ofChange searchDeltasSpec)

/-- ITS FALSE NEIGHBOUR: 'it returns false'. Refute it at one input. -/
def searchDeltasWrong : ChangeSpec := { name := "searchDeltas", fn := fun _ => fun
  | [d1, d2, d3] => { results := [.lit (.bool false)], args := [d1, d2, d3] }
  | _ => none }
def SearchDeltasWrongFalsely : Prop := searchDeltasRow.holds Try.pinned (OpenSpec.ofChange searchDeltasWrong)

/-- 'flittinglaw17.SearchSelf': WHATEVER THE INPUT: true; the input reads as it did. -/
def searchSelfSpec : ChangeSpec := { name := "searchSelf", fn := fun _ => fun
  | [d1, d2, d3] => { results := [.lit (.bool true)], args := [d1, d2, d3] }
  | _ => none }
def searchSelfRow : OpenClaim := { program := "ytobgbheodlpclaa", sum := "b71b7d81ac1b344d0394be8048cf58513bbce5c7f3306e704bf34bc6fb9f3178", func := "flitting/flittinglaw17.SearchSelf", spec := "searchSelf", inPlace := ["internal/abi.NoEscape"], unfollowed := true, recurses := true, plainKeys := false, apart := false }
def SearchSelfSaid : Prop := searchSelfRow.holds Try.pinned (OpenSpec.ofChange searchSelfSpec)

/-- ITS FALSE NEIGHBOUR: 'it returns false'. Refute it at one input. -/
def searchSelfWrong : ChangeSpec := { name := "searchSelf", fn := fun _ => fun
  | [d1, d2, d3] => { results := [.lit (.bool false)], args := [d1, d2, d3] }
  | _ => none }
def SearchSelfWrongFalsely : Prop := searchSelfRow.holds Try.pinned (OpenSpec.ofChange searchSelfWrong)

/-- 'flittinglaw18.PatchApplies': WHATEVER THE INPUT: true; the input reads as it did. -/
def patchAppliesSpec : ChangeSpec := { name := "patchApplies", fn := fun _ => fun
  | [d1, d2, d3] => { results := [.lit (.bool true)], args := [d1, d2, d3] }
  | _ => none }
def patchAppliesRow : OpenClaim := { program := "ytobgbheodlpclaa", sum := "b71b7d81ac1b344d0394be8048cf58513bbce5c7f3306e704bf34bc6fb9f3178", func := "flitting/flittinglaw18.PatchApplies", spec := "patchApplies", unfollowed := true, recurses := true, plainKeys := false, apart := false }
def PatchAppliesSaid : Prop := patchAppliesRow.holds Try.pinned (OpenSpec.ofChange patchAppliesSpec)

/-- ITS FALSE NEIGHBOUR: 'it returns false'. Refute it at one input. -/
def patchAppliesWrong : ChangeSpec := { name := "patchApplies", fn := fun _ => fun
  | [d1, d2, d3] => { results := [.lit (.bool false)], args := [d1, d2, d3] }
  | _ => none }
def PatchAppliesWrongFalsely : Prop := patchAppliesRow.holds Try.pinned (OpenSpec.ofChange patchAppliesWrong)

/-- 'flittinglaw18.PatchBack': WHATEVER THE INPUT: true; the input reads as it did. -/
def patchBackSpec : ChangeSpec := { name := "patchBack", fn := fun _ => fun
  | [d1, d2, d3] => { results := [.lit (.bool true)], args := [d1, d2, d3] }
  | _ => none }
def patchBackRow : OpenClaim := { program := "ytobgbheodlpclaa", sum := "b71b7d81ac1b344d0394be8048cf58513bbce5c7f3306e704bf34bc6fb9f3178", func := "flitting/flittinglaw18.PatchBack", spec := "patchBack", inPlace := ["internal/abi.NoEscape"], unfollowed := true, recurses := true, plainKeys := false, apart := false }
def PatchBackSaid : Prop := patchBackRow.holds Try.pinned (OpenSpec.ofChange patchBackSpec)

/-- ITS FALSE NEIGHBOUR: 'it returns false'. Refute it at one input. -/
def patchBackWrong : ChangeSpec := { name := "patchBack", fn := fun _ => fun
  | [d1, d2, d3] => { results := [.lit (.bool false)], args := [d1, d2, d3] }
  | _ => none }
def PatchBackWrongFalsely : Prop := patchBackRow.holds Try.pinned (OpenSpec.ofChange patchBackWrong)

/-- 'flittinglaw18.PatchFits': WHATEVER THE INPUT: true; the input reads as it did. -/
def patchFitsSpec : ChangeSpec := { name := "patchFits", fn := fun _ => fun
  | [d1, d2, d3] => { results := [.lit (.bool true)], args := [d1, d2, d3] }
  | _ => none }
def patchFitsRow : OpenClaim := { program := "ytobgbheodlpclaa", sum := "b71b7d81ac1b344d0394be8048cf58513bbce5c7f3306e704bf34bc6fb9f3178", func := "flitting/flittinglaw18.PatchFits", spec := "patchFits", unfollowed := true, recurses := true, plainKeys := false, apart := false }
def PatchFitsSaid : Prop := patchFitsRow.holds Try.pinned (OpenSpec.ofChange patchFitsSpec)

/-- ITS FALSE NEIGHBOUR: 'it returns false'. Refute it at one input. -/
def patchFitsWrong : ChangeSpec := { name := "patchFits", fn := fun _ => fun
  | [d1, d2, d3] => { results := [.lit (.bool false)], args := [d1, d2, d3] }
  | _ => none }
def PatchFitsWrongFalsely : Prop := patchFitsRow.holds Try.pinned (OpenSpec.ofChange patchFitsWrong)

/- THE SECOND FORM. 'bulk': how many values and letters a reading holds, each counted each time it is reached (what is shared counts as often as it is met; a slice's spare places count too). A statement '..UptoSaid' is the law's where the arguments, and the package variables that the reading takes, are together of bulk at most 1048576: NARROWER than '..Said'. Prove '..Said' where nothing that the law and all that it calls make is longer than what came in: it says more and counts as full. Else prove '..UptoSaid'. A law counts once. -/
mutual
def uptoBulk {H : Type} : DataW H → Nat
  | .lit (.string bytes) => bytes.length + 1
  | .lit _ => 1
  | .nil => 1
  | .ptr d => uptoBulk d + 1
  | .slice elems spare => uptoBulkAll elems + uptoBulkAll spare + 1
  | .agg parts => uptoBulkAll parts + 1
  | .iface _ d => uptoBulk d + 1
  | .map entries => uptoBulkEntries entries + 1
  | .held _ => 1
def uptoBulkAll {H : Type} : List (DataW H) → Nat
  | [] => 0
  | d :: r => uptoBulk d + uptoBulkAll r
def uptoBulkEntries {H : Type} : List (Lit × DataW H) → Nat
  | [] => 0
  | x :: r => uptoBulkEntry x + uptoBulkEntries r
def uptoBulkEntry {H : Type} : Lit × DataW H → Nat
  | (.string bytes, d) => bytes.length + uptoBulk d + 1
  | (_, d) => uptoBulk d + 1
 end
def uptoSmall : (H : Type) → List (DataW H) → Bool := fun _ ds => decide (uptoBulkAll ds ≤ 1048576)
def OpenSpec.upto (s : _root_.Go.ChangeSpec) : _root_.Go.OpenSpec := { _root_.Go.OpenSpec.ofChange s with cond := some uptoSmall }

/-- 'flittinglaw15.BlockOf', WHERE WHAT IT READS IS OF BULK AT MOST 1048576: true; the input reads as it did. -/
def blockOfUptoRow : OpenClaim := { program := "ytobgbheodlpclaa", sum := "b71b7d81ac1b344d0394be8048cf58513bbce5c7f3306e704bf34bc6fb9f3178", func := "flitting/flittinglaw15.BlockOf", spec := "blockOf", unfollowed := true, recurses := true, plainKeys := false, apart := false, narrowed := true }
def BlockOfUptoSaid : Prop := blockOfUptoRow.holds Try.pinned (OpenSpec.upto blockOfSpec)

/-- 'flittinglaw15.BlockPuts', WHERE WHAT IT READS IS OF BULK AT MOST 1048576: true; the input reads as it did. -/
def blockPutsUptoRow : OpenClaim := { program := "ytobgbheodlpclaa", sum := "b71b7d81ac1b344d0394be8048cf58513bbce5c7f3306e704bf34bc6fb9f3178", func := "flitting/flittinglaw15.BlockPuts", spec := "blockPuts", unfollowed := true, recurses := true, plainKeys := false, apart := false, narrowed := true }
def BlockPutsUptoSaid : Prop := blockPutsUptoRow.holds Try.pinned (OpenSpec.upto blockPutsSpec)

/-- 'flittinglaw15.BlockGets', WHERE WHAT IT READS IS OF BULK AT MOST 1048576: true; the input reads as it did. -/
def blockGetsUptoRow : OpenClaim := { program := "ytobgbheodlpclaa", sum := "b71b7d81ac1b344d0394be8048cf58513bbce5c7f3306e704bf34bc6fb9f3178", func := "flitting/flittinglaw15.BlockGets", spec := "blockGets", unfollowed := true, recurses := true, plainKeys := false, apart := false, narrowed := true }
def BlockGetsUptoSaid : Prop := blockGetsUptoRow.holds Try.pinned (OpenSpec.upto blockGetsSpec)

/-- 'flittinglaw15.BlockCounts', WHERE WHAT IT READS IS OF BULK AT MOST 1048576: true; the input reads as it did. -/
def blockCountsUptoRow : OpenClaim := { program := "ytobgbheodlpclaa", sum := "b71b7d81ac1b344d0394be8048cf58513bbce5c7f3306e704bf34bc6fb9f3178", func := "flitting/flittinglaw15.BlockCounts", spec := "blockCounts", unfollowed := true, recurses := true, plainKeys := false, apart := false, narrowed := true }
def BlockCountsUptoSaid : Prop := blockCountsUptoRow.holds Try.pinned (OpenSpec.upto blockCountsSpec)

/-- 'flittinglaw16.TokenPuts', WHERE WHAT IT READS IS OF BULK AT MOST 1048576: true; the input reads as it did. -/
def tokenPutsUptoRow : OpenClaim := { program := "ytobgbheodlpclaa", sum := "b71b7d81ac1b344d0394be8048cf58513bbce5c7f3306e704bf34bc6fb9f3178", func := "flitting/flittinglaw16.TokenPuts", spec := "tokenPuts", inPlace := ["internal/abi.NoEscape"], unfollowed := true, recurses := true, plainKeys := false, apart := false, narrowed := true }
def TokenPutsUptoSaid : Prop := tokenPutsUptoRow.holds Try.pinned (OpenSpec.upto tokenPutsSpec)

/-- 'flittinglaw16.TokenGets', WHERE WHAT IT READS IS OF BULK AT MOST 1048576: true; the input reads as it did. -/
def tokenGetsUptoRow : OpenClaim := { program := "ytobgbheodlpclaa", sum := "b71b7d81ac1b344d0394be8048cf58513bbce5c7f3306e704bf34bc6fb9f3178", func := "flitting/flittinglaw16.TokenGets", spec := "tokenGets", inPlace := ["internal/abi.NoEscape"], unfollowed := true, recurses := true, plainKeys := false, apart := false, narrowed := true }
def TokenGetsUptoSaid : Prop := tokenGetsUptoRow.holds Try.pinned (OpenSpec.upto tokenGetsSpec)

/-- 'flittinglaw16.TokenJoins', WHERE WHAT IT READS IS OF BULK AT MOST 1048576: true; the input reads as it did. -/
def tokenJoinsUptoRow : OpenClaim := { program := "ytobgbheodlpclaa", sum := "b71b7d81ac1b344d0394be8048cf58513bbce5c7f3306e704bf34bc6fb9f3178", func := "flitting/flittinglaw16.TokenJoins", spec := "tokenJoins", inPlace := ["internal/abi.NoEscape"], plainKeys := false, apart := false, narrowed := true }
def TokenJoinsUptoSaid : Prop := tokenJoinsUptoRow.holds Try.pinned (OpenSpec.upto tokenJoinsSpec)

/-- 'flittinglaw17.SearchDeltas', WHERE WHAT IT READS IS OF BULK AT MOST 1048576: true; the input reads as it did. -/
def searchDeltasUptoRow : OpenClaim := { program := "ytobgbheodlpclaa", sum := "b71b7d81ac1b344d0394be8048cf58513bbce5c7f3306e704bf34bc6fb9f3178", func := "flitting/flittinglaw17.SearchDeltas", spec := "searchDeltas", inPlace := ["internal/abi.NoEscape"], unfollowed := true, recurses := true, plainKeys := false, apart := false, narrowed := true }
def SearchDeltasUptoSaid : Prop := searchDeltasUptoRow.holds Try.pinned (OpenSpec.upto searchDeltasSpec)

/-- 'flittinglaw17.SearchSelf', WHERE WHAT IT READS IS OF BULK AT MOST 1048576: true; the input reads as it did. -/
def searchSelfUptoRow : OpenClaim := { program := "ytobgbheodlpclaa", sum := "b71b7d81ac1b344d0394be8048cf58513bbce5c7f3306e704bf34bc6fb9f3178", func := "flitting/flittinglaw17.SearchSelf", spec := "searchSelf", inPlace := ["internal/abi.NoEscape"], unfollowed := true, recurses := true, plainKeys := false, apart := false, narrowed := true }
def SearchSelfUptoSaid : Prop := searchSelfUptoRow.holds Try.pinned (OpenSpec.upto searchSelfSpec)

/-- 'flittinglaw18.PatchApplies', WHERE WHAT IT READS IS OF BULK AT MOST 1048576: true; the input reads as it did. -/
def patchAppliesUptoRow : OpenClaim := { program := "ytobgbheodlpclaa", sum := "b71b7d81ac1b344d0394be8048cf58513bbce5c7f3306e704bf34bc6fb9f3178", func := "flitting/flittinglaw18.PatchApplies", spec := "patchApplies", unfollowed := true, recurses := true, plainKeys := false, apart := false, narrowed := true }
def PatchAppliesUptoSaid : Prop := patchAppliesUptoRow.holds Try.pinned (OpenSpec.upto patchAppliesSpec)

/-- 'flittinglaw18.PatchBack', WHERE WHAT IT READS IS OF BULK AT MOST 1048576: true; the input reads as it did. -/
def patchBackUptoRow : OpenClaim := { program := "ytobgbheodlpclaa", sum := "b71b7d81ac1b344d0394be8048cf58513bbce5c7f3306e704bf34bc6fb9f3178", func := "flitting/flittinglaw18.PatchBack", spec := "patchBack", inPlace := ["internal/abi.NoEscape"], unfollowed := true, recurses := true, plainKeys := false, apart := false, narrowed := true }
def PatchBackUptoSaid : Prop := patchBackUptoRow.holds Try.pinned (OpenSpec.upto patchBackSpec)

/-- 'flittinglaw18.PatchFits', WHERE WHAT IT READS IS OF BULK AT MOST 1048576: true; the input reads as it did. -/
def patchFitsUptoRow : OpenClaim := { program := "ytobgbheodlpclaa", sum := "b71b7d81ac1b344d0394be8048cf58513bbce5c7f3306e704bf34bc6fb9f3178", func := "flitting/flittinglaw18.PatchFits", spec := "patchFits", unfollowed := true, recurses := true, plainKeys := false, apart := false, narrowed := true }
def PatchFitsUptoSaid : Prop := patchFitsUptoRow.holds Try.pinned (OpenSpec.upto patchFitsSpec)

end Rows
end Go.Proofs.Ytobgbheodlpclaa
