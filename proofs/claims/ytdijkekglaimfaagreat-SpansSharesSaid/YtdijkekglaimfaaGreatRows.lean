/-
  No cell of these rows narrows 'for every input' (looked for: loops, veiled, ifaces, maps, wideKeys, modest, calm, conditions, laid).
  DERIVED. THE GIVEN ROWS OF THIS SEAT. 5 by the template 'for every input the law returns true; each argument reads behind the call as it read before'; 0 by the template 'total and deterministic' (their statements: YtdijkekglaimfaaGreatTotals.lean).
  GIVEN WITH THE SEED: the statements are not yours to turn. If you find one false, say at which input.
  Laid BY PROGRAM, IN A SANDBOX (cutbox-rows.mjs): the forced cells as the released guide's own fill.sh prints them over the translation 09d739474cafa779… (all of the seat's roots in one cut). By AI agents, Wed Nov 11 2026. No macro, syntax, notation, axiom, sorry.
-/
import Derived.Test.YtdijkekglaimfaaGreatChecked
import GoSem.Claim
import GoSem.ClaimJoined
import GoSem.ClaimMapViews
import Derived.JoinedTies
import Derived.KernelRfl
namespace Go.Proofs.YtdijkekglaimfaaGreat
/- THE CELL 'sum', in the pinned program and in every row, IS THE sha256 OF THE DUMP (.gsa) THAT YtdijkekglaimfaaGreatProg.lean LOADS. Nothing in Lean hashes anything: it is a label: what it is worth is what the hold of that sum in a sandbox is worth. -/
noncomputable def Tryz.pinned : Pinned := { name := "ytdijkekglaimfaagreat", sum := "09d739474cafa779358531ac75bdf2c0fa35f522fdfae39c4744b1d92979c4e2", checked := Tryz.checked }
namespace Rows
def none {H : Type} : Left H := { results := [], args := [] }

/-- 'cooperlaw03.SpansForm': WHATEVER THE INPUT: true; the input reads as it did. -/
def spansFormSpec : ChangeSpec := { name := "spansForm", fn := fun _ => fun
  | [d1, d2] => { results := [.lit (.bool true)], args := [d1, d2] }
  | _ => none }
def spansFormRow : OpenClaim := { program := "ytdijkekglaimfaagreat", sum := "09d739474cafa779358531ac75bdf2c0fa35f522fdfae39c4744b1d92979c4e2", func := "cooper/cooperlaw03.SpansForm", spec := "spansForm", inPlace := ["internal/bytealg.IndexByteString", "internal/bytealg.IndexString", "internal/bytealg.abigen_runtime_cmpstring", "internal/abi.NoEscape", "internal/bytealg.MakeNoZero"], unfollowed := true, recurses := true, named := ["internal/bytealg.MaxLen"], apart := false }
def SpansFormSaid : Prop := spansFormRow.holds Tryz.pinned (OpenSpec.ofChange spansFormSpec)

/-- ITS FALSE NEIGHBOUR: 'it returns false'. Refute it at one input. -/
def spansFormWrong : ChangeSpec := { name := "spansForm", fn := fun _ => fun
  | [d1, d2] => { results := [.lit (.bool false)], args := [d1, d2] }
  | _ => none }
def SpansFormWrongFalsely : Prop := spansFormRow.holds Tryz.pinned (OpenSpec.ofChange spansFormWrong)

/-- 'cooperlaw03.SpansUnion': WHATEVER THE INPUT: true; the input reads as it did. -/
def spansUnionSpec : ChangeSpec := { name := "spansUnion", fn := fun _ => fun
  | [d1, d2, d3] => { results := [.lit (.bool true)], args := [d1, d2, d3] }
  | _ => none }
def spansUnionRow : OpenClaim := { program := "ytdijkekglaimfaagreat", sum := "09d739474cafa779358531ac75bdf2c0fa35f522fdfae39c4744b1d92979c4e2", func := "cooper/cooperlaw03.SpansUnion", spec := "spansUnion", inPlace := ["internal/bytealg.IndexByteString", "internal/bytealg.IndexString", "internal/bytealg.abigen_runtime_cmpstring", "internal/abi.NoEscape", "internal/bytealg.MakeNoZero"], unfollowed := true, recurses := true, named := ["internal/bytealg.MaxLen"], apart := false }
def SpansUnionSaid : Prop := spansUnionRow.holds Tryz.pinned (OpenSpec.ofChange spansUnionSpec)

/-- ITS FALSE NEIGHBOUR: 'it returns false'. Refute it at one input. -/
def spansUnionWrong : ChangeSpec := { name := "spansUnion", fn := fun _ => fun
  | [d1, d2, d3] => { results := [.lit (.bool false)], args := [d1, d2, d3] }
  | _ => none }
def SpansUnionWrongFalsely : Prop := spansUnionRow.holds Tryz.pinned (OpenSpec.ofChange spansUnionWrong)

/-- 'cooperlaw03.SpansMeet': WHATEVER THE INPUT: true; the input reads as it did. -/
def spansMeetSpec : ChangeSpec := { name := "spansMeet", fn := fun _ => fun
  | [d1, d2, d3] => { results := [.lit (.bool true)], args := [d1, d2, d3] }
  | _ => none }
def spansMeetRow : OpenClaim := { program := "ytdijkekglaimfaagreat", sum := "09d739474cafa779358531ac75bdf2c0fa35f522fdfae39c4744b1d92979c4e2", func := "cooper/cooperlaw03.SpansMeet", spec := "spansMeet", inPlace := ["internal/bytealg.IndexByteString", "internal/bytealg.IndexString", "internal/bytealg.abigen_runtime_cmpstring", "internal/abi.NoEscape", "internal/bytealg.MakeNoZero"], unfollowed := true, recurses := true, named := ["internal/bytealg.MaxLen"], apart := false }
def SpansMeetSaid : Prop := spansMeetRow.holds Tryz.pinned (OpenSpec.ofChange spansMeetSpec)

/-- ITS FALSE NEIGHBOUR: 'it returns false'. Refute it at one input. -/
def spansMeetWrong : ChangeSpec := { name := "spansMeet", fn := fun _ => fun
  | [d1, d2, d3] => { results := [.lit (.bool false)], args := [d1, d2, d3] }
  | _ => none }
def SpansMeetWrongFalsely : Prop := spansMeetRow.holds Tryz.pinned (OpenSpec.ofChange spansMeetWrong)

/-- 'cooperlaw03.SpansAll': WHATEVER THE INPUT: true; the input reads as it did. -/
def spansAllSpec : ChangeSpec := { name := "spansAll", fn := fun _ => fun
  | [d1, d2, d3] => { results := [.lit (.bool true)], args := [d1, d2, d3] }
  | _ => none }
def spansAllRow : OpenClaim := { program := "ytdijkekglaimfaagreat", sum := "09d739474cafa779358531ac75bdf2c0fa35f522fdfae39c4744b1d92979c4e2", func := "cooper/cooperlaw03.SpansAll", spec := "spansAll", inPlace := ["internal/bytealg.IndexByteString", "internal/bytealg.IndexString", "internal/bytealg.abigen_runtime_cmpstring", "internal/abi.NoEscape", "internal/bytealg.MakeNoZero"], unfollowed := true, recurses := true, named := ["internal/bytealg.MaxLen"], apart := false }
def SpansAllSaid : Prop := spansAllRow.holds Tryz.pinned (OpenSpec.ofChange spansAllSpec)

/-- ITS FALSE NEIGHBOUR: 'it returns false'. Refute it at one input. -/
def spansAllWrong : ChangeSpec := { name := "spansAll", fn := fun _ => fun
  | [d1, d2, d3] => { results := [.lit (.bool false)], args := [d1, d2, d3] }
  | _ => none }
def SpansAllWrongFalsely : Prop := spansAllRow.holds Tryz.pinned (OpenSpec.ofChange spansAllWrong)

/-- 'cooperlaw03.SpansShares': WHATEVER THE INPUT: true; the input reads as it did. -/
def spansSharesSpec : ChangeSpec := { name := "spansShares", fn := fun _ => fun
  | [d1, d2, d3, d4] => { results := [.lit (.bool true)], args := [d1, d2, d3, d4] }
  | _ => none }
def spansSharesRow : OpenClaim := { program := "ytdijkekglaimfaagreat", sum := "09d739474cafa779358531ac75bdf2c0fa35f522fdfae39c4744b1d92979c4e2", func := "cooper/cooperlaw03.SpansShares", spec := "spansShares", inPlace := ["internal/bytealg.IndexByteString", "internal/bytealg.IndexString", "internal/bytealg.abigen_runtime_cmpstring", "internal/abi.NoEscape", "internal/bytealg.MakeNoZero"], unfollowed := true, recurses := true, named := ["internal/bytealg.MaxLen"], apart := false }
def SpansSharesSaid : Prop := spansSharesRow.holds Tryz.pinned (OpenSpec.ofChange spansSharesSpec)

/-- ITS FALSE NEIGHBOUR: 'it returns false'. Refute it at one input. -/
def spansSharesWrong : ChangeSpec := { name := "spansShares", fn := fun _ => fun
  | [d1, d2, d3, d4] => { results := [.lit (.bool false)], args := [d1, d2, d3, d4] }
  | _ => none }
def SpansSharesWrongFalsely : Prop := spansSharesRow.holds Tryz.pinned (OpenSpec.ofChange spansSharesWrong)

/- THE SECOND FORM. 'bulk': how many values and letters a reading holds, each counted each time it is reached (what is shared counts as often as it is met; a slice's spare places count too). A statement '..UptoSaid' is the law's where the arguments, and the package variables that the reading takes, are together of bulk at most 1048576: NARROWER than '..Said'. Prove '..Said' where nothing that the law and all that it calls make is longer than what came in: it says more and counts as full. Else prove '..UptoSaid'. A law counts once. -/
mutual
def uptoBulk {H : Type} : DataW H → Nat
  | .lit (.string bytes) => bytes.length + 1
  | .lit _ => 1
  | .nil => 1
  | .ptr d => uptoBulk d + 1
  | .slice elems spare => uptoBulkAll elems + uptoBulkAll spare + 1
  | .agg parts => uptoBulkAll parts + 1
  | .iface _ d => uptoBulk d + 1
  | .map entries => uptoBulkEntries entries + 1
  | .held _ => 1
def uptoBulkAll {H : Type} : List (DataW H) → Nat
  | [] => 0
  | d :: r => uptoBulk d + uptoBulkAll r
def uptoBulkEntries {H : Type} : List (Lit × DataW H) → Nat
  | [] => 0
  | x :: r => uptoBulkEntry x + uptoBulkEntries r
def uptoBulkEntry {H : Type} : Lit × DataW H → Nat
  | (.string bytes, d) => bytes.length + uptoBulk d + 1
  | (_, d) => uptoBulk d + 1
 end
def uptoSmall : (H : Type) → List (DataW H) → Bool := fun _ ds => decide (uptoBulkAll ds ≤ 1048576)
def OpenSpec.upto (s : _root_.Go.ChangeSpec) : _root_.Go.OpenSpec := { _root_.Go.OpenSpec.ofChange s with cond := some uptoSmall }

/-- 'cooperlaw03.SpansForm', WHERE WHAT IT READS IS OF BULK AT MOST 1048576: true; the input reads as it did. -/
def spansFormUptoRow : OpenClaim := { program := "ytdijkekglaimfaagreat", sum := "09d739474cafa779358531ac75bdf2c0fa35f522fdfae39c4744b1d92979c4e2", func := "cooper/cooperlaw03.SpansForm", spec := "spansForm", inPlace := ["internal/bytealg.IndexByteString", "internal/bytealg.IndexString", "internal/bytealg.abigen_runtime_cmpstring", "internal/abi.NoEscape", "internal/bytealg.MakeNoZero"], unfollowed := true, recurses := true, named := ["internal/bytealg.MaxLen"], apart := false, narrowed := true }
def SpansFormUptoSaid : Prop := spansFormUptoRow.holds Tryz.pinned (OpenSpec.upto spansFormSpec)

/-- 'cooperlaw03.SpansUnion', WHERE WHAT IT READS IS OF BULK AT MOST 1048576: true; the input reads as it did. -/
def spansUnionUptoRow : OpenClaim := { program := "ytdijkekglaimfaagreat", sum := "09d739474cafa779358531ac75bdf2c0fa35f522fdfae39c4744b1d92979c4e2", func := "cooper/cooperlaw03.SpansUnion", spec := "spansUnion", inPlace := ["internal/bytealg.IndexByteString", "internal/bytealg.IndexString", "internal/bytealg.abigen_runtime_cmpstring", "internal/abi.NoEscape", "internal/bytealg.MakeNoZero"], unfollowed := true, recurses := true, named := ["internal/bytealg.MaxLen"], apart := false, narrowed := true }
def SpansUnionUptoSaid : Prop := spansUnionUptoRow.holds Tryz.pinned (OpenSpec.upto spansUnionSpec)

/-- 'cooperlaw03.SpansMeet', WHERE WHAT IT READS IS OF BULK AT MOST 1048576: true; the input reads as it did. -/
def spansMeetUptoRow : OpenClaim := { program := "ytdijkekglaimfaagreat", sum := "09d739474cafa779358531ac75bdf2c0fa35f522fdfae39c4744b1d92979c4e2", func := "cooper/cooperlaw03.SpansMeet", spec := "spansMeet", inPlace := ["internal/bytealg.IndexByteString", "internal/bytealg.IndexString", "internal/bytealg.abigen_runtime_cmpstring", "internal/abi.NoEscape", "internal/bytealg.MakeNoZero"], unfollowed := true, recurses := true, named := ["internal/bytealg.MaxLen"], apart := false, narrowed := true }
def SpansMeetUptoSaid : Prop := spansMeetUptoRow.holds Tryz.pinned (OpenSpec.upto spansMeetSpec)

/-- 'cooperlaw03.SpansAll', WHERE WHAT IT READS IS OF BULK AT MOST 1048576: true; the input reads as it did. -/
def spansAllUptoRow : OpenClaim := { program := "ytdijkekglaimfaagreat", sum := "09d739474cafa779358531ac75bdf2c0fa35f522fdfae39c4744b1d92979c4e2", func := "cooper/cooperlaw03.SpansAll", spec := "spansAll", inPlace := ["internal/bytealg.IndexByteString", "internal/bytealg.IndexString", "internal/bytealg.abigen_runtime_cmpstring", "internal/abi.NoEscape", "internal/bytealg.MakeNoZero"], unfollowed := true, recurses := true, named := ["internal/bytealg.MaxLen"], apart := false, narrowed := true }
def SpansAllUptoSaid : Prop := spansAllUptoRow.holds Tryz.pinned (OpenSpec.upto spansAllSpec)

/-- 'cooperlaw03.SpansShares', WHERE WHAT IT READS IS OF BULK AT MOST 1048576: true; the input reads as it did. -/
def spansSharesUptoRow : OpenClaim := { program := "ytdijkekglaimfaagreat", sum := "09d739474cafa779358531ac75bdf2c0fa35f522fdfae39c4744b1d92979c4e2", func := "cooper/cooperlaw03.SpansShares", spec := "spansShares", inPlace := ["internal/bytealg.IndexByteString", "internal/bytealg.IndexString", "internal/bytealg.abigen_runtime_cmpstring", "internal/abi.NoEscape", "internal/bytealg.MakeNoZero"], unfollowed := true, recurses := true, named := ["internal/bytealg.MaxLen"], apart := false, narrowed := true }
def SpansSharesUptoSaid : Prop := spansSharesUptoRow.holds Tryz.pinned (OpenSpec.upto spansSharesSpec)

end Rows
end Go.Proofs.YtdijkekglaimfaaGreat
