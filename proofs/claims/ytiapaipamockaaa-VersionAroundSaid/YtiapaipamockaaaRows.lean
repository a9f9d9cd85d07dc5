/-
  No cell of these rows narrows 'for every input' (looked for: loops, veiled, ifaces, maps, wideKeys, modest, calm, conditions, laid).
  DERIVED. THE GIVEN ROWS OF THIS SEAT. 5 by the template 'for every input the law returns true; each argument reads behind the call as it read before'; 0 by the template 'total and deterministic' (their statements: YtiapaipamockaaaTotals.lean).
  GIVEN WITH THE SEED: the statements are not yours to turn. If you find one false, say at which input.
  Laid BY PROGRAM, IN A SANDBOX (cutbox-rows.mjs): the forced cells as the released guide's own fill.sh prints them over the translation 5c3168c63faaca0f… (all of the seat's roots in one cut). By AI agents, Wed Nov 11 2026. No macro, syntax, notation, axiom, sorry.
-/
import Derived.Test.YtiapaipamockaaaChecked
import GoSem.Claim
import GoSem.ClaimJoined
import GoSem.ClaimMapViews
import Derived.JoinedTies
import Derived.KernelRfl
namespace Go.Proofs.Ytiapaipamockaaa
/- THE CELL 'sum', in the pinned program and in every row, IS THE sha256 OF THE DUMP (.gsa) THAT YtiapaipamockaaaProg.lean LOADS. Nothing in Lean hashes anything: it is a label: what it is worth is what the hold of that sum in a sandbox is worth. -/
noncomputable def Try.pinned : Pinned := { name := "ytiapaipamockaaa", sum := "5c3168c63faaca0f25279686c7b280150fac9c9c05765bbea314ae9bdb278964", checked := Try.checked }
namespace Rows
def none {H : Type} : Left H := { results := [], args := [] }

/-- 'cooperlaw01.VersionMay': WHATEVER THE INPUT: true; the input reads as it did. -/
def versionMaySpec : ChangeSpec := { name := "versionMay", fn := fun _ => fun
  | [d] => { results := [.lit (.bool true)], args := [d] }
  | _ => none }
def versionMayRow : OpenClaim := { program := "ytiapaipamockaaa", sum := "5c3168c63faaca0f25279686c7b280150fac9c9c05765bbea314ae9bdb278964", func := "cooper/cooperlaw01.VersionMay", spec := "versionMay", inPlace := ["internal/bytealg.IndexByteString", "internal/bytealg.IndexString", "internal/bytealg.abigen_runtime_cmpstring"], unfollowed := true, recurses := true, named := ["internal/bytealg.MaxLen"], apart := false }
def VersionMaySaid : Prop := versionMayRow.holds Try.pinned (OpenSpec.ofChange versionMaySpec)

/-- ITS FALSE NEIGHBOUR: 'it returns false'. Refute it at one input. -/
def versionMayWrong : ChangeSpec := { name := "versionMay", fn := fun _ => fun
  | [d] => { results := [.lit (.bool false)], args := [d] }
  | _ => none }
def VersionMayWrongFalsely : Prop := versionMayRow.holds Try.pinned (OpenSpec.ofChange versionMayWrong)

/-- 'cooperlaw01.VersionCompare': WHATEVER THE INPUT: true; the input reads as it did. -/
def versionCompareSpec : ChangeSpec := { name := "versionCompare", fn := fun _ => fun
  | [d1, d2, d3] => { results := [.lit (.bool true)], args := [d1, d2, d3] }
  | _ => none }
def versionCompareRow : OpenClaim := { program := "ytiapaipamockaaa", sum := "5c3168c63faaca0f25279686c7b280150fac9c9c05765bbea314ae9bdb278964", func := "cooper/cooperlaw01.VersionCompare", spec := "versionCompare", inPlace := ["internal/bytealg.IndexByteString", "internal/bytealg.IndexString", "internal/bytealg.abigen_runtime_cmpstring"], unfollowed := true, recurses := true, named := ["internal/bytealg.MaxLen"], apart := false }
def VersionCompareSaid : Prop := versionCompareRow.holds Try.pinned (OpenSpec.ofChange versionCompareSpec)

/-- ITS FALSE NEIGHBOUR: 'it returns false'. Refute it at one input. -/
def versionCompareWrong : ChangeSpec := { name := "versionCompare", fn := fun _ => fun
  | [d1, d2, d3] => { results := [.lit (.bool false)], args := [d1, d2, d3] }
  | _ => none }
def VersionCompareWrongFalsely : Prop := versionCompareRow.holds Try.pinned (OpenSpec.ofChange versionCompareWrong)

/-- 'cooperlaw01.VersionNewest': WHATEVER THE INPUT: true; the input reads as it did. -/
def versionNewestSpec : ChangeSpec := { name := "versionNewest", fn := fun _ => fun
  | [d] => { results := [.lit (.bool true)], args := [d] }
  | _ => none }
def versionNewestRow : OpenClaim := { program := "ytiapaipamockaaa", sum := "5c3168c63faaca0f25279686c7b280150fac9c9c05765bbea314ae9bdb278964", func := "cooper/cooperlaw01.VersionNewest", spec := "versionNewest", inPlace := ["internal/bytealg.IndexByteString", "internal/bytealg.IndexString", "internal/bytealg.abigen_runtime_cmpstring"], unfollowed := true, recurses := true, named := ["internal/bytealg.MaxLen"], apart := false }
def VersionNewestSaid : Prop := versionNewestRow.holds Try.pinned (OpenSpec.ofChange versionNewestSpec)

/-- ITS FALSE NEIGHBOUR: 'it returns false'. Refute it at one input. -/
def versionNewestWrong : ChangeSpec := { name := "versionNewest", fn := fun _ => fun
  | [d] => { results := [.lit (.bool false)], args := [d] }
  | _ => none }
def VersionNewestWrongFalsely : Prop := versionNewestRow.holds Try.pinned (OpenSpec.ofChange versionNewestWrong)

/-- 'cooperlaw01.VersionAround': WHATEVER THE INPUT: true; the input reads as it did. -/
def versionAroundSpec : ChangeSpec := { name := "versionAround", fn := fun _ => fun
  | [d1, d2, d3, d4] => { results := [.lit (.bool true)], args := [d1, d2, d3, d4] }
  | _ => none }
def versionAroundRow : OpenClaim := { program := "ytiapaipamockaaa", sum := "5c3168c63faaca0f25279686c7b280150fac9c9c05765bbea314ae9bdb278964", func := "cooper/cooperlaw01.VersionAround", spec := "versionAround", inPlace := ["internal/bytealg.IndexByteString", "internal/bytealg.IndexString", "internal/bytealg.abigen_runtime_cmpstring"], unfollowed := true, recurses := true, named := ["internal/bytealg.MaxLen"], apart := false }
def VersionAroundSaid : Prop := versionAroundRow.holds Try.pinned (OpenSpec.ofChange versionAroundSpec)

/-- ITS FALSE NEIGHBOUR: 'it returns false'. Refute it at one input. -/
def versionAroundWrong : ChangeSpec := { name := "versionAround", fn := fun _ => fun
  | [d1, d2, d3, d4] => { results := [.lit (.bool false)], args := [d1, d2, d3, d4] }
  | _ => none }
def VersionAroundWrongFalsely : Prop := versionAroundRow.holds Try.pinned (OpenSpec.ofChange versionAroundWrong)

/-- 'cooperlaw01.VersionTails': WHATEVER THE INPUT: true; the input reads as it did. -/
def versionTailsSpec : ChangeSpec := { name := "versionTails", fn := fun _ => fun
  | [d1, d2, d3] => { results := [.lit (.bool true)], args := [d1, d2, d3] }
  | _ => none }
def versionTailsRow : OpenClaim := { program := "ytiapaipamockaaa", sum := "5c3168c63faaca0f25279686c7b280150fac9c9c05765bbea314ae9bdb278964", func := "cooper/cooperlaw01.VersionTails", spec := "versionTails", inPlace := ["internal/bytealg.IndexByteString", "internal/bytealg.IndexString", "internal/bytealg.abigen_runtime_cmpstring"], unfollowed := true, recurses := true, named := ["internal/bytealg.MaxLen"], apart := false }
def VersionTailsSaid : Prop := versionTailsRow.holds Try.pinned (OpenSpec.ofChange versionTailsSpec)

/-- ITS FALSE NEIGHBOUR: 'it returns false'. Refute it at one input. -/
def versionTailsWrong : ChangeSpec := { name := "versionTails", fn := fun _ => fun
  | [d1, d2, d3] => { results := [.lit (.bool false)], args := [d1, d2, d3] }
  | _ => none }
def VersionTailsWrongFalsely : Prop := versionTailsRow.holds Try.pinned (OpenSpec.ofChange versionTailsWrong)

/- THE SECOND FORM. 'bulk': how many values and letters a reading holds, each counted each time it is reached (what is shared counts as often as it is met; a slice's spare places count too). A statement '..UptoSaid' is the law's where the arguments, and the package variables that the reading takes, are together of bulk at most 1048576: NARROWER than '..Said'. Prove '..Said' where nothing that the law and all that it calls make is longer than what came in: it says more and counts as full. Else prove '..UptoSaid'. A law counts once. -/
mutual
def uptoBulk {H : Type} : DataW H → Nat
  | .lit (.string bytes) => bytes.length + 1
  | .lit _ => 1
  | .nil => 1
  | .ptr d => uptoBulk d + 1
  | .slice elems spare => uptoBulkAll elems + uptoBulkAll spare + 1
  | .agg parts => uptoBulkAll parts + 1
  | .iface _ d => uptoBulk d + 1
  | .map entries => uptoBulkEntries entries + 1
  | .held _ => 1
def uptoBulkAll {H : Type} : List (DataW H) → Nat
  | [] => 0
  | d :: r => uptoBulk d + uptoBulkAll r
def uptoBulkEntries {H : Type} : List (Lit × DataW H) → Nat
  | [] => 0
  | x :: r => uptoBulkEntry x + uptoBulkEntries r
def uptoBulkEntry {H : Type} : Lit × DataW H → Nat
  | (.string bytes, d) => bytes.length + uptoBulk d + 1
  | (_, d) => uptoBulk d + 1
 end
def uptoSmall : (H : Type) → List (DataW H) → Bool := fun _ ds => decide (uptoBulkAll ds ≤ 1048576)
def OpenSpec.upto (s : _root_.Go.ChangeSpec) : _root_.Go.OpenSpec := { _root_.Go.OpenSpec.ofChange s with cond := some uptoSmall }

/-- 'cooperlaw01.VersionMay', WHERE WHAT IT READS IS OF BULK AT MOST 1048576: true; the input reads as it did. -/
def versionMayUptoRow : OpenClaim := { program := "ytiapaipamockaaa", sum := "5c3168c63faaca0f25279686c7b280150fac9c9c05765bbea314ae9bdb278964", func := "cooper/cooperlaw01.VersionMay", spec := "versionMay", inPlace := ["internal/bytealg.IndexByteString", "internal/bytealg.IndexString", "internal/bytealg.abigen_runtime_cmpstring"], unfollowed := true, recurses := true, named := ["internal/bytealg.MaxLen"], apart := false, narrowed := true }
def VersionMayUptoSaid : Prop := versionMayUptoRow.holds Try.pinned (OpenSpec.upto versionMaySpec)

/-- 'cooperlaw01.VersionCompare', WHERE WHAT IT READS IS OF BULK AT MOST 1048576: true; the input reads as it did. -/
def versionCompareUptoRow : OpenClaim := { program := "ytiapaipamockaaa", sum := "5c3168c63faaca0f25279686c7b280150fac9c9c05765bbea314ae9bdb278964", func := "cooper/cooperlaw01.VersionCompare", spec := "versionCompare", inPlace := ["internal/bytealg.IndexByteString", "internal/bytealg.IndexString", "internal/bytealg.abigen_runtime_cmpstring"], unfollowed := true, recurses := true, named := ["internal/bytealg.MaxLen"], apart := false, narrowed := true }
def VersionCompareUptoSaid : Prop := versionCompareUptoRow.holds Try.pinned (OpenSpec.upto versionCompareSpec)

/-- 'cooperlaw01.VersionNewest', WHERE WHAT IT READS IS OF BULK AT MOST 1048576: true; the input reads as it did. -/
def versionNewestUptoRow : OpenClaim := { program := "ytiapaipamockaaa", sum := "5c3168c63faaca0f25279686c7b280150fac9c9c05765bbea314ae9bdb278964", func := "cooper/cooperlaw01.VersionNewest", spec := "versionNewest", inPlace := ["internal/bytealg.IndexByteString", "internal/bytealg.IndexString", "internal/bytealg.abigen_runtime_cmpstring"], unfollowed := true, recurses := true, named := ["internal/bytealg.MaxLen"], apart := false, narrowed := true }
def VersionNewestUptoSaid : Prop := versionNewestUptoRow.holds Try.pinned (OpenSpec.upto versionNewestSpec)

/-- 'cooperlaw01.VersionAround', WHERE WHAT IT READS IS OF BULK AT MOST 1048576: true; the input reads as it did. -/
def versionAroundUptoRow : OpenClaim := { program := "ytiapaipamockaaa", sum := "5c3168c63faaca0f25279686c7b280150fac9c9c05765bbea314ae9bdb278964", func := "cooper/cooperlaw01.VersionAround", spec := "versionAround", inPlace := ["internal/bytealg.IndexByteString", "internal/bytealg.IndexString", "internal/bytealg.abigen_runtime_cmpstring"], unfollowed := true, recurses := true, named := ["internal/bytealg.MaxLen"], apart := false, narrowed := true }
def VersionAroundUptoSaid : Prop := versionAroundUptoRow.holds Try.pinned (OpenSpec.upto versionAroundSpec)

/-- 'cooperlaw01.VersionTails', WHERE WHAT IT READS IS OF BULK AT MOST 1048576: true; the input reads as it did. -/
def versionTailsUptoRow : OpenClaim := { program := "ytiapaipamockaaa", sum := "5c3168c63faaca0f25279686c7b280150fac9c9c05765bbea314ae9bdb278964", func := "cooper/cooperlaw01.VersionTails", spec := "versionTails", inPlace := ["internal/bytealg.IndexByteString", "internal/bytealg.IndexString", "internal/bytealg.abigen_runtime_cmpstring"], unfollowed := true, recurses := true, named := ["internal/bytealg.MaxLen"], apart := false, narrowed := true }
def VersionTailsUptoSaid : Prop := versionTailsUptoRow.holds Try.pinned (OpenSpec.upto versionTailsSpec)

end Rows
end Go.Proofs.Ytiapaipamockaaa
