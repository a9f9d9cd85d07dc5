/-
  No cell of these rows narrows 'for every input' (looked for: loops, veiled, ifaces, maps, wideKeys, modest, calm, conditions, laid).
  DERIVED. THE GIVEN ROWS OF THIS SEAT. 6 by the template 'for every input the law returns true; each argument reads behind the call as it read before'; 0 by the template 'total and deterministic' (their statements: YtggejmojbebhfaaTotals.lean).
  GIVEN WITH THE SEED: the statements are not yours to turn. If you find one false, say at which input.
  Laid BY PROGRAM, IN A SANDBOX (cutbox-rows.mjs): the forced cells as the released guide's own fill.sh prints them over the translation a0cf98148c842399… (all of the seat's roots in one cut). By AI agents, Wed Nov 11 2026. No macro, syntax, notation, axiom, sorry.
-/
import Derived.Test.YtggejmojbebhfaaChecked
import GoSem.Claim
import GoSem.ClaimJoined
import GoSem.ClaimMapViews
import Derived.JoinedTies
import Derived.KernelRfl
namespace Go.Proofs.Ytggejmojbebhfaa
/- THE CELL 'sum', in the pinned program and in every row, IS THE sha256 OF THE DUMP (.gsa) THAT YtggejmojbebhfaaProg.lean LOADS. Nothing in Lean hashes anything: it is a label: what it is worth is what the hold of that sum in a sandbox is worth. -/
noncomputable def Try.pinned : Pinned := { name := "ytggejmojbebhfaa", sum := "a0cf98148c8423991d3919d9a2e008d431321b022fd47b14129fa22c23a8ae2f", checked := Try.checked }
namespace Rows
def none {H : Type} : Left H := { results := [], args := [] }

/-- 'cooperlaw09.CheckRecipe': WHATEVER THE INPUT: true; the input reads as it did. -/
def checkRecipeSpec : ChangeSpec := { name := "checkRecipe", fn := fun _ => fun
  | [d] => { results := [.lit (.bool true)], args := [d] }
  | _ => none }
def checkRecipeRow : OpenClaim := { program := "ytggejmojbebhfaa", sum := "a0cf98148c8423991d3919d9a2e008d431321b022fd47b14129fa22c23a8ae2f", func := "cooper/cooperlaw09.CheckRecipe", spec := "checkRecipe", unfollowed := true, recurses := true, apart := false }
def CheckRecipeSaid : Prop := checkRecipeRow.holds Try.pinned (OpenSpec.ofChange checkRecipeSpec)

/-- ITS FALSE NEIGHBOUR: 'it returns false'. Refute it at one input. -/
def checkRecipeWrong : ChangeSpec := { name := "checkRecipe", fn := fun _ => fun
  | [d] => { results := [.lit (.bool false)], args := [d] }
  | _ => none }
def CheckRecipeWrongFalsely : Prop := checkRecipeRow.holds Try.pinned (OpenSpec.ofChange checkRecipeWrong)

/-- 'cooperlaw09.CheckNames': WHATEVER THE INPUT: true; the input reads as it did. -/
def checkNamesSpec : ChangeSpec := { name := "checkNames", fn := fun _ => fun
  | [d1, d2] => { results := [.lit (.bool true)], args := [d1, d2] }
  | _ => none }
def checkNamesRow : OpenClaim := { program := "ytggejmojbebhfaa", sum := "a0cf98148c8423991d3919d9a2e008d431321b022fd47b14129fa22c23a8ae2f", func := "cooper/cooperlaw09.CheckNames", spec := "checkNames", unfollowed := true, recurses := true, apart := false }
def CheckNamesSaid : Prop := checkNamesRow.holds Try.pinned (OpenSpec.ofChange checkNamesSpec)

/-- ITS FALSE NEIGHBOUR: 'it returns false'. Refute it at one input. -/
def checkNamesWrong : ChangeSpec := { name := "checkNames", fn := fun _ => fun
  | [d1, d2] => { results := [.lit (.bool false)], args := [d1, d2] }
  | _ => none }
def CheckNamesWrongFalsely : Prop := checkNamesRow.holds Try.pinned (OpenSpec.ofChange checkNamesWrong)

/-- 'cooperlaw09.CheckParts': WHATEVER THE INPUT: true; the input reads as it did. -/
def checkPartsSpec : ChangeSpec := { name := "checkParts", fn := fun _ => fun
  | [d1, d2, d3] => { results := [.lit (.bool true)], args := [d1, d2, d3] }
  | _ => none }
def checkPartsRow : OpenClaim := { program := "ytggejmojbebhfaa", sum := "a0cf98148c8423991d3919d9a2e008d431321b022fd47b14129fa22c23a8ae2f", func := "cooper/cooperlaw09.CheckParts", spec := "checkParts", unfollowed := true, recurses := true, apart := false }
def CheckPartsSaid : Prop := checkPartsRow.holds Try.pinned (OpenSpec.ofChange checkPartsSpec)

/-- ITS FALSE NEIGHBOUR: 'it returns false'. Refute it at one input. -/
def checkPartsWrong : ChangeSpec := { name := "checkParts", fn := fun _ => fun
  | [d1, d2, d3] => { results := [.lit (.bool false)], args := [d1, d2, d3] }
  | _ => none }
def CheckPartsWrongFalsely : Prop := checkPartsRow.holds Try.pinned (OpenSpec.ofChange checkPartsWrong)

/-- 'cooperlaw10.NeedsRanks': WHATEVER THE INPUT: true; the input reads as it did. -/
def needsRanksSpec : ChangeSpec := { name := "needsRanks", fn := fun _ => fun
  | [d1, d2, d3, d4, d5] => { results := [.lit (.bool true)], args := [d1, d2, d3, d4, d5] }
  | _ => none }
def needsRanksRow : OpenClaim := { program := "ytggejmojbebhfaa", sum := "a0cf98148c8423991d3919d9a2e008d431321b022fd47b14129fa22c23a8ae2f", func := "cooper/cooperlaw10.NeedsRanks", spec := "needsRanks", inPlace := ["internal/bytealg.IndexByteString", "internal/bytealg.IndexString", "internal/bytealg.abigen_runtime_cmpstring"], unfollowed := true, recurses := true, named := ["internal/bytealg.MaxLen"], apart := false }
def NeedsRanksSaid : Prop := needsRanksRow.holds Try.pinned (OpenSpec.ofChange needsRanksSpec)

/-- ITS FALSE NEIGHBOUR: 'it returns false'. Refute it at one input. -/
def needsRanksWrong : ChangeSpec := { name := "needsRanks", fn := fun _ => fun
  | [d1, d2, d3, d4, d5] => { results := [.lit (.bool false)], args := [d1, d2, d3, d4, d5] }
  | _ => none }
def NeedsRanksWrongFalsely : Prop := needsRanksRow.holds Try.pinned (OpenSpec.ofChange needsRanksWrong)

/-- 'cooperlaw10.NeedsMore': WHATEVER THE INPUT: true; the input reads as it did. -/
def needsMoreSpec : ChangeSpec := { name := "needsMore", fn := fun _ => fun
  | [d1, d2, d3] => { results := [.lit (.bool true)], args := [d1, d2, d3] }
  | _ => none }
def needsMoreRow : OpenClaim := { program := "ytggejmojbebhfaa", sum := "a0cf98148c8423991d3919d9a2e008d431321b022fd47b14129fa22c23a8ae2f", func := "cooper/cooperlaw10.NeedsMore", spec := "needsMore", unfollowed := true, recurses := true, apart := false }
def NeedsMoreSaid : Prop := needsMoreRow.holds Try.pinned (OpenSpec.ofChange needsMoreSpec)

/-- ITS FALSE NEIGHBOUR: 'it returns false'. Refute it at one input. -/
def needsMoreWrong : ChangeSpec := { name := "needsMore", fn := fun _ => fun
  | [d1, d2, d3] => { results := [.lit (.bool false)], args := [d1, d2, d3] }
  | _ => none }
def NeedsMoreWrongFalsely : Prop := needsMoreRow.holds Try.pinned (OpenSpec.ofChange needsMoreWrong)

/-- 'cooperlaw10.NeedsRow': WHATEVER THE INPUT: true; the input reads as it did. -/
def needsRowSpec : ChangeSpec := { name := "needsRow", fn := fun _ => fun
  | [d] => { results := [.lit (.bool true)], args := [d] }
  | _ => none }
def needsRowRow : OpenClaim := { program := "ytggejmojbebhfaa", sum := "a0cf98148c8423991d3919d9a2e008d431321b022fd47b14129fa22c23a8ae2f", func := "cooper/cooperlaw10.NeedsRow", spec := "needsRow", inPlace := ["internal/bytealg.IndexByteString", "internal/bytealg.IndexString", "internal/bytealg.abigen_runtime_cmpstring"], unfollowed := true, recurses := true, named := ["internal/bytealg.MaxLen"], apart := false }
def NeedsRowSaid : Prop := needsRowRow.holds Try.pinned (OpenSpec.ofChange needsRowSpec)

/-- ITS FALSE NEIGHBOUR: 'it returns false'. Refute it at one input. -/
def needsRowWrong : ChangeSpec := { name := "needsRow", fn := fun _ => fun
  | [d] => { results := [.lit (.bool false)], args := [d] }
  | _ => none }
def NeedsRowWrongFalsely : Prop := needsRowRow.holds Try.pinned (OpenSpec.ofChange needsRowWrong)

/- THE SECOND FORM. 'bulk': how many values and letters a reading holds, each counted each time it is reached (what is shared counts as often as it is met; a slice's spare places count too). A statement '..UptoSaid' is the law's where the arguments, and the package variables that the reading takes, are together of bulk at most 1048576: NARROWER than '..Said'. Prove '..Said' where nothing that the law and all that it calls make is longer than what came in: it says more and counts as full. Else prove '..UptoSaid'. A law counts once. -/
mutual
def uptoBulk {H : Type} : DataW H → Nat
  | .lit (.string bytes) => bytes.length + 1
  | .lit _ => 1
  | .nil => 1
  | .ptr d => uptoBulk d + 1
  | .slice elems spare => uptoBulkAll elems + uptoBulkAll spare + 1
  | .agg parts => uptoBulkAll parts + 1
  | .iface _ d => uptoBulk d + 1
  | .map entries => uptoBulkEntries entries + 1
  | .held _ => 1
def uptoBulkAll {H : Type} : List (DataW H) → Nat
  | [] => 0
  | d :: r => uptoBulk d + uptoBulkAll r
def uptoBulkEntries {H : Type} : List (Lit × DataW H) → Nat
  | [] => 0
  | x :: r => uptoBulkEntry x + uptoBulkEntries r
def uptoBulkEntry {H : Type} : Lit × DataW H → Nat
  | (.string bytes, d) => bytes.length + uptoBulk d + 1
  | (_, d) => uptoBulk d + 1
 end
def uptoSmall : (H : Type) → List (DataW H) → Bool := fun _ ds => decide (uptoBulkAll ds ≤ 1048576)
def OpenSpec.upto (s : _root_.Go.ChangeSpec) : _root_.Go.OpenSpec := { _root_.Go.OpenSpec.ofChange s with cond := some uptoSmall }

/-- 'cooperlaw09.CheckRecipe', WHERE WHAT IT READS IS OF BULK AT MOST 1048576: true; the input reads as it did. -/
def checkRecipeUptoRow : OpenClaim := { program := "ytggejmojbebhfaa", sum := "a0cf98148c8423991d3919d9a2e008d431321b022fd47b14129fa22c23a8ae2f", func := "cooper/cooperlaw09.CheckRecipe", spec := "checkRecipe", unfollowed := true, recurses := true, apart := false, narrowed := true }
def CheckRecipeUptoSaid : Prop := checkRecipeUptoRow.holds Try.pinned (OpenSpec.upto checkRecipeSpec)

/-- 'cooperlaw09.CheckNames', WHERE WHAT IT READS IS OF BULK AT MOST 1048576: true; the input reads as it did. -/
def checkNamesUptoRow : OpenClaim := { program := "ytggejmojbebhfaa", sum := "a0cf98148c8423991d3919d9a2e008d431321b022fd47b14129fa22c23a8ae2f", func := "cooper/cooperlaw09.CheckNames", spec := "checkNames", unfollowed := true, recurses := true, apart := false, narrowed := true }
def CheckNamesUptoSaid : Prop := checkNamesUptoRow.holds Try.pinned (OpenSpec.upto checkNamesSpec)

/-- 'cooperlaw09.CheckParts', WHERE WHAT IT READS IS OF BULK AT MOST 1048576: true; the input reads as it did. -/
def checkPartsUptoRow : OpenClaim := { program := "ytggejmojbebhfaa", sum := "a0cf98148c8423991d3919d9a2e008d431321b022fd47b14129fa22c23a8ae2f", func := "cooper/cooperlaw09.CheckParts", spec := "checkParts", unfollowed := true, recurses := true, apart := false, narrowed := true }
def CheckPartsUptoSaid : Prop := checkPartsUptoRow.holds Try.pinned (OpenSpec.upto checkPartsSpec)

/-- 'cooperlaw10.NeedsRanks', WHERE WHAT IT READS IS OF BULK AT MOST 1048576: true; the input reads as it did. -/
def needsRanksUptoRow : OpenClaim := { program := "ytggejmojbebhfaa", sum := "a0cf98148c8423991d3919d9a2e008d431321b022fd47b14129fa22c23a8ae2f", func := "cooper/cooperlaw10.NeedsRanks", spec := "needsRanks", inPlace := ["internal/bytealg.IndexByteString", "internal/bytealg.IndexString", "internal/bytealg.abigen_runtime_cmpstring"], unfollowed := true, recurses := true, named := ["internal/bytealg.MaxLen"], apart := false, narrowed := true }
def NeedsRanksUptoSaid : Prop := needsRanksUptoRow.holds Try.pinned (OpenSpec.upto needsRanksSpec)

/-- 'cooperlaw10.NeedsMore', WHERE WHAT IT READS IS OF BULK AT MOST 1048576: true; the input reads as it did. -/
def needsMoreUptoRow : OpenClaim := { program := "ytggejmojbebhfaa", sum := "a0cf98148c8423991d3919d9a2e008d431321b022fd47b14129fa22c23a8ae2f", func := "cooper/cooperlaw10.NeedsMore", spec := "needsMore", unfollowed := true, recurses := true, apart := false, narrowed := true }
def NeedsMoreUptoSaid : Prop := needsMoreUptoRow.holds Try.pinned (OpenSpec.upto needsMoreSpec)

/-- 'cooperlaw10.NeedsRow', WHERE WHAT IT READS IS OF BULK AT MOST 1048576: true; the input reads as it did. -/
def needsRowUptoRow : OpenClaim := { program := "ytggejmojbebhfaa", sum := "a0cf98148c8423991d3919d9a2e008d431321b022fd47b14129fa22c23a8ae2f", func := "cooper/cooperlaw10.NeedsRow", spec := "needsRow", inPlace := ["internal/bytealg.IndexByteString", "internal/bytealg.IndexString", "internal/bytealg.abigen_runtime_cmpstring"], unfollowed := true, recurses := true, named := ["internal/bytealg.MaxLen"], apart := false, narrowed := true }
def NeedsRowUptoSaid : Prop := needsRowUptoRow.holds Try.pinned (OpenSpec.upto needsRowSpec)

end Rows
end Go.Proofs.Ytggejmojbebhfaa
