/-
  No cell of these rows narrows 'for every input' (looked for: loops, veiled, ifaces, maps, wideKeys, modest, calm, conditions, laid).
  DERIVED. THE GIVEN ROWS OF THIS SEAT. 5 by the template 'for every input the law returns true; each argument reads behind the call as it read before'; 0 by the template 'total and deterministic' (their statements: YtbdceeecngibmaaTotals.lean).
  GIVEN WITH THE SEED: the statements are not yours to turn. If you find one false, say at which input.
  Laid BY PROGRAM, IN A SANDBOX (cutbox-rows.mjs): the forced cells as the released guide's own fill.sh prints them over the translation 122ba1f832695447… (all of the seat's roots in one cut). By AI agents, Wed Nov 11 2026. No macro, syntax, notation, axiom, sorry.
-/
import Derived.Test.YtbdceeecngibmaaChecked
import GoSem.Claim
import GoSem.ClaimJoined
import GoSem.ClaimMapViews
import Derived.JoinedTies
import Derived.KernelRfl
namespace Go.Proofs.Ytbdceeecngibmaa
/- THE CELL 'sum', in the pinned program and in every row, IS THE sha256 OF THE DUMP (.gsa) THAT YtbdceeecngibmaaProg.lean LOADS. Nothing in Lean hashes anything: it is a label: what it is worth is what the hold of that sum in a sandbox is worth. -/
noncomputable def Try.pinned : Pinned := { name := "ytbdceeecngibmaa", sum := "122ba1f832695447515e83ffc224cbb151dd9dd422395cb4123162cfe4e5664f", checked := Try.checked }
namespace Rows
def none {H : Type} : Left H := { results := [], args := [] }

/-- 'cooperlaw04.VariantNames': WHATEVER THE INPUT: true; the input reads as it did. -/
def variantNamesSpec : ChangeSpec := { name := "variantNames", fn := fun _ => fun
  | [d] => { results := [.lit (.bool true)], args := [d] }
  | _ => none }
def variantNamesRow : OpenClaim := { program := "ytbdceeecngibmaa", sum := "122ba1f832695447515e83ffc224cbb151dd9dd422395cb4123162cfe4e5664f", func := "cooper/cooperlaw04.VariantNames", spec := "variantNames", unfollowed := true, recurses := true, apart := false }
def VariantNamesSaid : Prop := variantNamesRow.holds Try.pinned (OpenSpec.ofChange variantNamesSpec)

/-- ITS FALSE NEIGHBOUR: 'it returns false'. Refute it at one input. -/
def variantNamesWrong : ChangeSpec := { name := "variantNames", fn := fun _ => fun
  | [d] => { results := [.lit (.bool false)], args := [d] }
  | _ => none }
def VariantNamesWrongFalsely : Prop := variantNamesRow.holds Try.pinned (OpenSpec.ofChange variantNamesWrong)

/-- 'cooperlaw04.VariantMay': WHATEVER THE INPUT: true; the input reads as it did. -/
def variantMaySpec : ChangeSpec := { name := "variantMay", fn := fun _ => fun
  | [d1, d2] => { results := [.lit (.bool true)], args := [d1, d2] }
  | _ => none }
def variantMayRow : OpenClaim := { program := "ytbdceeecngibmaa", sum := "122ba1f832695447515e83ffc224cbb151dd9dd422395cb4123162cfe4e5664f", func := "cooper/cooperlaw04.VariantMay", spec := "variantMay", unfollowed := true, recurses := true, apart := false }
def VariantMaySaid : Prop := variantMayRow.holds Try.pinned (OpenSpec.ofChange variantMaySpec)

/-- ITS FALSE NEIGHBOUR: 'it returns false'. Refute it at one input. -/
def variantMayWrong : ChangeSpec := { name := "variantMay", fn := fun _ => fun
  | [d1, d2] => { results := [.lit (.bool false)], args := [d1, d2] }
  | _ => none }
def VariantMayWrongFalsely : Prop := variantMayRow.holds Try.pinned (OpenSpec.ofChange variantMayWrong)

/-- 'cooperlaw04.VariantAll': WHATEVER THE INPUT: true; the input reads as it did. -/
def variantAllSpec : ChangeSpec := { name := "variantAll", fn := fun _ => fun
  | [d] => { results := [.lit (.bool true)], args := [d] }
  | _ => none }
def variantAllRow : OpenClaim := { program := "ytbdceeecngibmaa", sum := "122ba1f832695447515e83ffc224cbb151dd9dd422395cb4123162cfe4e5664f", func := "cooper/cooperlaw04.VariantAll", spec := "variantAll", unfollowed := true, recurses := true, apart := false }
def VariantAllSaid : Prop := variantAllRow.holds Try.pinned (OpenSpec.ofChange variantAllSpec)

/-- ITS FALSE NEIGHBOUR: 'it returns false'. Refute it at one input. -/
def variantAllWrong : ChangeSpec := { name := "variantAll", fn := fun _ => fun
  | [d] => { results := [.lit (.bool false)], args := [d] }
  | _ => none }
def VariantAllWrongFalsely : Prop := variantAllRow.holds Try.pinned (OpenSpec.ofChange variantAllWrong)

/-- 'cooperlaw04.VariantBoth': WHATEVER THE INPUT: true; the input reads as it did. -/
def variantBothSpec : ChangeSpec := { name := "variantBoth", fn := fun _ => fun
  | [d1, d2, d3, d4] => { results := [.lit (.bool true)], args := [d1, d2, d3, d4] }
  | _ => none }
def variantBothRow : OpenClaim := { program := "ytbdceeecngibmaa", sum := "122ba1f832695447515e83ffc224cbb151dd9dd422395cb4123162cfe4e5664f", func := "cooper/cooperlaw04.VariantBoth", spec := "variantBoth", inPlace := ["internal/bytealg.abigen_runtime_cmpstring"], unfollowed := true, recurses := true, apart := false }
def VariantBothSaid : Prop := variantBothRow.holds Try.pinned (OpenSpec.ofChange variantBothSpec)

/-- ITS FALSE NEIGHBOUR: 'it returns false'. Refute it at one input. -/
def variantBothWrong : ChangeSpec := { name := "variantBoth", fn := fun _ => fun
  | [d1, d2, d3, d4] => { results := [.lit (.bool false)], args := [d1, d2, d3, d4] }
  | _ => none }
def VariantBothWrongFalsely : Prop := variantBothRow.holds Try.pinned (OpenSpec.ofChange variantBothWrong)

/-- 'cooperlaw04.VariantMany': WHATEVER THE INPUT: true; the input reads as it did. -/
def variantManySpec : ChangeSpec := { name := "variantMany", fn := fun _ => fun
  | [d1, d2] => { results := [.lit (.bool true)], args := [d1, d2] }
  | _ => none }
def variantManyRow : OpenClaim := { program := "ytbdceeecngibmaa", sum := "122ba1f832695447515e83ffc224cbb151dd9dd422395cb4123162cfe4e5664f", func := "cooper/cooperlaw04.VariantMany", spec := "variantMany", unfollowed := true, recurses := true, apart := false }
def VariantManySaid : Prop := variantManyRow.holds Try.pinned (OpenSpec.ofChange variantManySpec)

/-- ITS FALSE NEIGHBOUR: 'it returns false'. Refute it at one input. -/
def variantManyWrong : ChangeSpec := { name := "variantMany", fn := fun _ => fun
  | [d1, d2] => { results := [.lit (.bool false)], args := [d1, d2] }
  | _ => none }
def VariantManyWrongFalsely : Prop := variantManyRow.holds Try.pinned (OpenSpec.ofChange variantManyWrong)

/- THE SECOND FORM. 'bulk': how many values and letters a reading holds, each counted each time it is reached (what is shared counts as often as it is met; a slice's spare places count too). A statement '..UptoSaid' is the law's where the arguments, and the package variables that the reading takes, are together of bulk at most 1048576: NARROWER than '..Said'. Prove '..Said' where nothing that the law and all that it calls make is longer than what came in: it says more and counts as full. Else prove '..UptoSaid'. A law counts once. -/
mutual
def uptoBulk {H : Type} : DataW H → Nat
  | .lit (.string bytes) => bytes.length + 1
  | .lit _ => 1
  | .nil => 1
  | .ptr d => uptoBulk d + 1
  | .slice elems spare => uptoBulkAll elems + uptoBulkAll spare + 1
  | .agg parts => uptoBulkAll parts + 1
  | .iface _ d => uptoBulk d + 1
  | .map entries => uptoBulkEntries entries + 1
  | .held _ => 1
def uptoBulkAll {H : Type} : List (DataW H) → Nat
  | [] => 0
  | d :: r => uptoBulk d + uptoBulkAll r
def uptoBulkEntries {H : Type} : List (Lit × DataW H) → Nat
  | [] => 0
  | x :: r => uptoBulkEntry x + uptoBulkEntries r
def uptoBulkEntry {H : Type} : Lit × DataW H → Nat
  | (.string bytes, d) => bytes.length + uptoBulk d + 1
  | (_, d) => uptoBulk d + 1
 end
def uptoSmall : (H : Type) → List (DataW H) → Bool := fun _ ds => decide (uptoBulkAll ds ≤ 1048576)
def OpenSpec.upto (s : _root_.Go.ChangeSpec) : _root_.Go.OpenSpec := { _root_.Go.OpenSpec.ofChange s with cond := some uptoSmall }

/-- 'cooperlaw04.VariantNames', WHERE WHAT IT READS IS OF BULK AT MOST 1048576: true; the input reads as it did. -/
def variantNamesUptoRow : OpenClaim := { program := "ytbdceeecngibmaa", sum := "122ba1f832695447515e83ffc224cbb151dd9dd422395cb4123162cfe4e5664f", func := "cooper/cooperlaw04.VariantNames", spec := "variantNames", unfollowed := true, recurses := true, apart := false, narrowed := true }
def VariantNamesUptoSaid : Prop := variantNamesUptoRow.holds Try.pinned (OpenSpec.upto variantNamesSpec)

/-- 'cooperlaw04.VariantMay', WHERE WHAT IT READS IS OF BULK AT MOST 1048576: true; the input reads as it did. -/
def variantMayUptoRow : OpenClaim := { program := "ytbdceeecngibmaa", sum := "122ba1f832695447515e83ffc224cbb151dd9dd422395cb4123162cfe4e5664f", func := "cooper/cooperlaw04.VariantMay", spec := "variantMay", unfollowed := true, recurses := true, apart := false, narrowed := true }
def VariantMayUptoSaid : Prop := variantMayUptoRow.holds Try.pinned (OpenSpec.upto variantMaySpec)

/-- 'cooperlaw04.VariantAll', WHERE WHAT IT READS IS OF BULK AT MOST 1048576: true; the input reads as it did. -/
def variantAllUptoRow : OpenClaim := { program := "ytbdceeecngibmaa", sum := "122ba1f832695447515e83ffc224cbb151dd9dd422395cb4123162cfe4e5664f", func := "cooper/cooperlaw04.VariantAll", spec := "variantAll", unfollowed := true, recurses := true, apart := false, narrowed := true }
def VariantAllUptoSaid : Prop := variantAllUptoRow.holds Try.pinned (OpenSpec.upto variantAllSpec)

/-- 'cooperlaw04.VariantBoth', WHERE WHAT IT READS IS OF BULK AT MOST 1048576: true; the input reads as it did. -/
def variantBothUptoRow : OpenClaim := { program := "ytbdceeecngibmaa", sum := "122ba1f832695447515e83ffc224cbb151dd9dd422395cb4123162cfe4e5664f", func := "cooper/cooperlaw04.VariantBoth", spec := "variantBoth", inPlace := ["internal/bytealg.abigen_runtime_cmpstring"], unfollowed := true, recurses := true, apart := false, narrowed := true }
def VariantBothUptoSaid : Prop := variantBothUptoRow.holds Try.pinned (OpenSpec.upto variantBothSpec)

/-- 'cooperlaw04.VariantMany', WHERE WHAT IT READS IS OF BULK AT MOST 1048576: true; the input reads as it did. -/
def variantManyUptoRow : OpenClaim := { program := "ytbdceeecngibmaa", sum := "122ba1f832695447515e83ffc224cbb151dd9dd422395cb4123162cfe4e5664f", func := "cooper/cooperlaw04.VariantMany", spec := "variantMany", unfollowed := true, recurses := true, apart := false, narrowed := true }
def VariantManyUptoSaid : Prop := variantManyUptoRow.holds Try.pinned (OpenSpec.upto variantManySpec)

end Rows
end Go.Proofs.Ytbdceeecngibmaa
