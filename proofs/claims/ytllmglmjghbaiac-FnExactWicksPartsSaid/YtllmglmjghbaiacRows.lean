/-
  No cell of these rows narrows 'for every input' (looked for: loops, veiled, ifaces, maps, wideKeys, modest, calm, conditions, laid).
  DERIVED. THE GIVEN ROWS OF THIS SEAT. 2 by the template 'for every input the law returns true; each argument reads behind the call as it read before'; 0 by the template 'total and deterministic' (their statements: YtllmglmjghbaiacTotals.lean).
  GIVEN WITH THE SEED: the statements are not yours to turn. If you find one false, say at which input.
  Laid BY PROGRAM, IN A SANDBOX (cutbox-rows.mjs): the forced cells as the released guide's own fill.sh prints them over the translation 8194cb53abc1c057… (all of the seat's roots in one cut). By AI agents, Wed Nov 11 2026. No macro, syntax, notation, axiom, sorry.
-/
import Derived.Test.YtllmglmjghbaiacChecked
import GoSem.Claim
import GoSem.ClaimJoined
import GoSem.ClaimMapViews
import Derived.JoinedTies
import Derived.KernelRfl
namespace Go.Proofs.Ytllmglmjghbaiac
/- THE CELL 'sum', in the pinned program and in every row, IS THE sha256 OF THE DUMP (.gsa) THAT YtllmglmjghbaiacProg.lean LOADS. Nothing in Lean hashes anything: it is a label: what it is worth is what the hold of that sum in a sandbox is worth. -/
noncomputable def Try.pinned : Pinned := { name := "ytllmglmjghbaiac", sum := "8194cb53abc1c057d0135068c23a529eaf754a21b224cad578ba8f9d21370da8", checked := Try.checked }
namespace Rows
def none {H : Type} : Left H := { results := [], args := [] }

/-- 'laws.FnExactBalancedTree': WHATEVER THE INPUT: true; the input reads as it did. -/
def fnExactBalancedTreeSpec : ChangeSpec := { name := "fnExactBalancedTree", fn := fun _ => fun
  | [d] => { results := [.lit (.bool true)], args := [d] }
  | _ => none }
def fnExactBalancedTreeRow : OpenClaim := { program := "ytllmglmjghbaiac", sum := "8194cb53abc1c057d0135068c23a529eaf754a21b224cad578ba8f9d21370da8", func := "loop.example/g01206/laws.FnExactBalancedTree", spec := "fnExactBalancedTree", inPlace := ["internal/abi.NoEscape"], recurses := true, apart := false }
def FnExactBalancedTreeSaid : Prop := fnExactBalancedTreeRow.holds Try.pinned (OpenSpec.ofChange fnExactBalancedTreeSpec)

/-- ITS FALSE NEIGHBOUR: 'it returns false'. Refute it at one input. -/
def fnExactBalancedTreeWrong : ChangeSpec := { name := "fnExactBalancedTree", fn := fun _ => fun
  | [d] => { results := [.lit (.bool false)], args := [d] }
  | _ => none }
def FnExactBalancedTreeWrongFalsely : Prop := fnExactBalancedTreeRow.holds Try.pinned (OpenSpec.ofChange fnExactBalancedTreeWrong)

/-- 'laws.FnExactWicksParts': WHATEVER THE INPUT: true; the input reads as it did. -/
def fnExactWicksPartsSpec : ChangeSpec := { name := "fnExactWicksParts", fn := fun _ => fun
  | [d] => { results := [.lit (.bool true)], args := [d] }
  | _ => none }
def fnExactWicksPartsRow : OpenClaim := { program := "ytllmglmjghbaiac", sum := "8194cb53abc1c057d0135068c23a529eaf754a21b224cad578ba8f9d21370da8", func := "loop.example/g01206/laws.FnExactWicksParts", spec := "fnExactWicksParts", apart := false }
def FnExactWicksPartsSaid : Prop := fnExactWicksPartsRow.holds Try.pinned (OpenSpec.ofChange fnExactWicksPartsSpec)

/-- ITS FALSE NEIGHBOUR: 'it returns false'. Refute it at one input. -/
def fnExactWicksPartsWrong : ChangeSpec := { name := "fnExactWicksParts", fn := fun _ => fun
  | [d] => { results := [.lit (.bool false)], args := [d] }
  | _ => none }
def FnExactWicksPartsWrongFalsely : Prop := fnExactWicksPartsRow.holds Try.pinned (OpenSpec.ofChange fnExactWicksPartsWrong)

/- THE SECOND FORM. 'bulk': how many values and letters a reading holds, each counted each time it is reached (what is shared counts as often as it is met; a slice's spare places count too). A statement '..UptoSaid' is the law's where the arguments, and the package variables that the reading takes, are together of bulk at most 1048576: NARROWER than '..Said'. Prove '..Said' where nothing that the law and all that it calls make is longer than what came in: it says more and counts as full. Else prove '..UptoSaid'. A law counts once. -/
mutual
def uptoBulk {H : Type} : DataW H → Nat
  | .lit (.string bytes) => bytes.length + 1
  | .lit _ => 1
  | .nil => 1
  | .ptr d => uptoBulk d + 1
  | .slice elems spare => uptoBulkAll elems + uptoBulkAll spare + 1
  | .agg parts => uptoBulkAll parts + 1
  | .iface _ d => uptoBulk d + 1
  | .map entries => uptoBulkEntries entries + 1
  | .held _ => 1
def uptoBulkAll {H : Type} : List (DataW H) → Nat
  | [] => 0
  | d :: r => uptoBulk d + uptoBulkAll r
def uptoBulkEntries {H : Type} : List (Lit × DataW H) → Nat
  | [] => 0
  | x :: r => uptoBulkEntry x + uptoBulkEntries r
def uptoBulkEntry {H : Type} : Lit × DataW H → Nat
  | (.string bytes, d) => bytes.length + uptoBulk d + 1
  | (_, d) => uptoBulk d + 1
 end
def uptoSmall : (H : Type) → List (DataW H) → Bool := fun _ ds => decide (uptoBulkAll ds ≤ 1048576)
def OpenSpec.upto (s : _root_.Go.ChangeSpec) : _root_.Go.OpenSpec := { _root_.Go.OpenSpec.ofChange s with cond := some uptoSmall }

/-- 'laws.FnExactBalancedTree', WHERE WHAT IT READS IS OF BULK AT MOST 1048576: true; the input reads as it did. -/
def fnExactBalancedTreeUptoRow : OpenClaim := { program := "ytllmglmjghbaiac", sum := "8194cb53abc1c057d0135068c23a529eaf754a21b224cad578ba8f9d21370da8", func := "loop.example/g01206/laws.FnExactBalancedTree", spec := "fnExactBalancedTree", inPlace := ["internal/abi.NoEscape"], recurses := true, apart := false, narrowed := true }
def FnExactBalancedTreeUptoSaid : Prop := fnExactBalancedTreeUptoRow.holds Try.pinned (OpenSpec.upto fnExactBalancedTreeSpec)

/-- 'laws.FnExactWicksParts', WHERE WHAT IT READS IS OF BULK AT MOST 1048576: true; the input reads as it did. -/
def fnExactWicksPartsUptoRow : OpenClaim := { program := "ytllmglmjghbaiac", sum := "8194cb53abc1c057d0135068c23a529eaf754a21b224cad578ba8f9d21370da8", func := "loop.example/g01206/laws.FnExactWicksParts", spec := "fnExactWicksParts", apart := false, narrowed := true }
def FnExactWicksPartsUptoSaid : Prop := fnExactWicksPartsUptoRow.holds Try.pinned (OpenSpec.upto fnExactWicksPartsSpec)

end Rows
end Go.Proofs.Ytllmglmjghbaiac
