/-
  No cell of these rows narrows 'for every input' (looked for: loops, veiled, ifaces, maps, wideKeys, modest, calm, conditions, laid).
  DERIVED. THE GIVEN ROWS OF THIS SEAT. 4 by the template 'for every input the law returns true; each argument reads behind the call as it read before'; 0 by the template 'total and deterministic' (their statements: YtbnolfiboflmiaaTotals.lean).
  GIVEN WITH THE SEED: the statements are not yours to turn. If you find one false, say at which input.
  Laid BY PROGRAM, IN A SANDBOX (cutbox-rows.mjs): the forced cells as the released guide's own fill.sh prints them over the translation 7ada54322b9ff6ba… (all of the seat's roots in one cut). By AI agents, Wed Nov 11 2026. No macro, syntax, notation, axiom, sorry.
-/
import Derived.Test.YtbnolfiboflmiaaChecked
import GoSem.Claim
import GoSem.ClaimJoined
import GoSem.ClaimMapViews
import Derived.JoinedTies
import Derived.KernelRfl
namespace Go.Proofs.Ytbnolfiboflmiaa
/- THE CELL 'sum', in the pinned program and in every row, IS THE sha256 OF THE DUMP (.gsa) THAT YtbnolfiboflmiaaProg.lean LOADS. Nothing in Lean hashes anything: it is a label: what it is worth is what the hold of that sum in a sandbox is worth. -/
noncomputable def Try.pinned : Pinned := { name := "ytbnolfiboflmiaa", sum := "7ada54322b9ff6bab2eabc2d49d64e60ffeb9860e9adada58c0cf324b8d00d67", checked := Try.checked }
namespace Rows
def none {H : Type} : Left H := { results := [], args := [] }

/-- 'cooperlaw20.LubyRow': WHATEVER THE INPUT: true; the input reads as it did. -/
def lubyRowSpec : ChangeSpec := { name := "lubyRow", fn := fun _ => fun
  | [d1, d2] => { results := [.lit (.bool true)], args := [d1, d2] }
  | _ => none }
def lubyRowRow : OpenClaim := { program := "ytbnolfiboflmiaa", sum := "7ada54322b9ff6bab2eabc2d49d64e60ffeb9860e9adada58c0cf324b8d00d67", func := "cooper/cooperlaw20.LubyRow", spec := "lubyRow", apart := false }
def LubyRowSaid : Prop := lubyRowRow.holds Try.pinned (OpenSpec.ofChange lubyRowSpec)

/-- ITS FALSE NEIGHBOUR: 'it returns false'. Refute it at one input. -/
def lubyRowWrong : ChangeSpec := { name := "lubyRow", fn := fun _ => fun
  | [d1, d2] => { results := [.lit (.bool false)], args := [d1, d2] }
  | _ => none }
def LubyRowWrongFalsely : Prop := lubyRowRow.holds Try.pinned (OpenSpec.ofChange lubyRowWrong)

/-- 'cooperlaw20.LubyPace': WHATEVER THE INPUT: true; the input reads as it did. -/
def lubyPaceSpec : ChangeSpec := { name := "lubyPace", fn := fun _ => fun
  | [d1, d2, d3] => { results := [.lit (.bool true)], args := [d1, d2, d3] }
  | _ => none }
def lubyPaceRow : OpenClaim := { program := "ytbnolfiboflmiaa", sum := "7ada54322b9ff6bab2eabc2d49d64e60ffeb9860e9adada58c0cf324b8d00d67", func := "cooper/cooperlaw20.LubyPace", spec := "lubyPace", apart := false }
def LubyPaceSaid : Prop := lubyPaceRow.holds Try.pinned (OpenSpec.ofChange lubyPaceSpec)

/-- ITS FALSE NEIGHBOUR: 'it returns false'. Refute it at one input. -/
def lubyPaceWrong : ChangeSpec := { name := "lubyPace", fn := fun _ => fun
  | [d1, d2, d3] => { results := [.lit (.bool false)], args := [d1, d2, d3] }
  | _ => none }
def LubyPaceWrongFalsely : Prop := lubyPaceRow.holds Try.pinned (OpenSpec.ofChange lubyPaceWrong)

/-- 'cooperlaw20.LubyNil': WHATEVER THE INPUT: true; the input reads as it did. -/
def lubyNilSpec : ChangeSpec := { name := "lubyNil", fn := fun _ => fun
  | [d] => { results := [.lit (.bool true)], args := [d] }
  | _ => none }
def lubyNilRow : OpenClaim := { program := "ytbnolfiboflmiaa", sum := "7ada54322b9ff6bab2eabc2d49d64e60ffeb9860e9adada58c0cf324b8d00d67", func := "cooper/cooperlaw20.LubyNil", spec := "lubyNil", apart := false }
def LubyNilSaid : Prop := lubyNilRow.holds Try.pinned (OpenSpec.ofChange lubyNilSpec)

/-- ITS FALSE NEIGHBOUR: 'it returns false'. Refute it at one input. -/
def lubyNilWrong : ChangeSpec := { name := "lubyNil", fn := fun _ => fun
  | [d] => { results := [.lit (.bool false)], args := [d] }
  | _ => none }
def LubyNilWrongFalsely : Prop := lubyNilRow.holds Try.pinned (OpenSpec.ofChange lubyNilWrong)

/-- 'cooperlaw20.LubySums': WHATEVER THE INPUT: true; the input reads as it did. -/
def lubySumsSpec : ChangeSpec := { name := "lubySums", fn := fun _ => fun
  | [d] => { results := [.lit (.bool true)], args := [d] }
  | _ => none }
def lubySumsRow : OpenClaim := { program := "ytbnolfiboflmiaa", sum := "7ada54322b9ff6bab2eabc2d49d64e60ffeb9860e9adada58c0cf324b8d00d67", func := "cooper/cooperlaw20.LubySums", spec := "lubySums", apart := false }
def LubySumsSaid : Prop := lubySumsRow.holds Try.pinned (OpenSpec.ofChange lubySumsSpec)

/-- ITS FALSE NEIGHBOUR: 'it returns false'. Refute it at one input. -/
def lubySumsWrong : ChangeSpec := { name := "lubySums", fn := fun _ => fun
  | [d] => { results := [.lit (.bool false)], args := [d] }
  | _ => none }
def LubySumsWrongFalsely : Prop := lubySumsRow.holds Try.pinned (OpenSpec.ofChange lubySumsWrong)

/- THE SECOND FORM. 'bulk': how many values and letters a reading holds, each counted each time it is reached (what is shared counts as often as it is met; a slice's spare places count too). A statement '..UptoSaid' is the law's where the arguments, and the package variables that the reading takes, are together of bulk at most 1048576: NARROWER than '..Said'. Prove '..Said' where nothing that the law and all that it calls make is longer than what came in: it says more and counts as full. Else prove '..UptoSaid'. A law counts once. -/
mutual
def uptoBulk {H : Type} : DataW H → Nat
  | .lit (.string bytes) => bytes.length + 1
  | .lit _ => 1
  | .nil => 1
  | .ptr d => uptoBulk d + 1
  | .slice elems spare => uptoBulkAll elems + uptoBulkAll spare + 1
  | .agg parts => uptoBulkAll parts + 1
  | .iface _ d => uptoBulk d + 1
  | .map entries => uptoBulkEntries entries + 1
  | .held _ => 1
def uptoBulkAll {H : Type} : List (DataW H) → Nat
  | [] => 0
  | d :: r => uptoBulk d + uptoBulkAll r
def uptoBulkEntries {H : Type} : List (Lit × DataW H) → Nat
  | [] => 0
  | x :: r => uptoBulkEntry x + uptoBulkEntries r
def uptoBulkEntry {H : Type} : Lit × DataW H → Nat
  | (.string bytes, d) => bytes.length + uptoBulk d + 1
  | (_, d) => uptoBulk d + 1
 end
def uptoSmall : (H : Type) → List (DataW H) → Bool := fun _ ds => decide (uptoBulkAll ds ≤ 1048576)
def OpenSpec.upto (s : _root_.Go.ChangeSpec) : _root_.Go.OpenSpec := { _root_.Go.OpenSpec.ofChange s with cond := some uptoSmall }

/-- 'cooperlaw20.LubyRow', WHERE WHAT IT READS IS OF BULK AT MOST 1048576: true; the input reads as it did. -/
def lubyRowUptoRow : OpenClaim := { program := "ytbnolfiboflmiaa", sum := "7ada54322b9ff6bab2eabc2d49d64e60ffeb9860e9adada58c0cf324b8d00d67", func := "cooper/cooperlaw20.LubyRow", spec := "lubyRow", apart := false, narrowed := true }
def LubyRowUptoSaid : Prop := lubyRowUptoRow.holds Try.pinned (OpenSpec.upto lubyRowSpec)

/-- 'cooperlaw20.LubyPace', WHERE WHAT IT READS IS OF BULK AT MOST 1048576: true; the input reads as it did. -/
def lubyPaceUptoRow : OpenClaim := { program := "ytbnolfiboflmiaa", sum := "7ada54322b9ff6bab2eabc2d49d64e60ffeb9860e9adada58c0cf324b8d00d67", func := "cooper/cooperlaw20.LubyPace", spec := "lubyPace", apart := false, narrowed := true }
def LubyPaceUptoSaid : Prop := lubyPaceUptoRow.holds Try.pinned (OpenSpec.upto lubyPaceSpec)

/-- 'cooperlaw20.LubyNil', WHERE WHAT IT READS IS OF BULK AT MOST 1048576: true; the input reads as it did. -/
def lubyNilUptoRow : OpenClaim := { program := "ytbnolfiboflmiaa", sum := "7ada54322b9ff6bab2eabc2d49d64e60ffeb9860e9adada58c0cf324b8d00d67", func := "cooper/cooperlaw20.LubyNil", spec := "lubyNil", apart := false, narrowed := true }
def LubyNilUptoSaid : Prop := lubyNilUptoRow.holds Try.pinned (OpenSpec.upto lubyNilSpec)

/-- 'cooperlaw20.LubySums', WHERE WHAT IT READS IS OF BULK AT MOST 1048576: true; the input reads as it did. -/
def lubySumsUptoRow : OpenClaim := { program := "ytbnolfiboflmiaa", sum := "7ada54322b9ff6bab2eabc2d49d64e60ffeb9860e9adada58c0cf324b8d00d67", func := "cooper/cooperlaw20.LubySums", spec := "lubySums", apart := false, narrowed := true }
def LubySumsUptoSaid : Prop := lubySumsUptoRow.holds Try.pinned (OpenSpec.upto lubySumsSpec)

end Rows
end Go.Proofs.Ytbnolfiboflmiaa
