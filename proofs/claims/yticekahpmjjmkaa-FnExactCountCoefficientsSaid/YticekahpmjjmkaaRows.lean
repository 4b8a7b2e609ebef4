/-
  No cell of these rows narrows 'for every input' (looked for: loops, veiled, ifaces, maps, wideKeys, modest, calm, conditions, laid).
  DERIVED. THE GIVEN ROWS OF THIS SEAT. 9 by the template 'for every input the law returns true; each argument reads behind the call as it read before'; 0 by the template 'total and deterministic' (their statements: YticekahpmjjmkaaTotals.lean).
  GIVEN WITH THE SEED: the statements are not yours to turn. If you find one false, say at which input.
  Laid BY PROGRAM, IN A SANDBOX (cutbox-rows.mjs): the forced cells as the released guide's own fill.sh prints them over the translation c1cf4fa33e186d4a… (all of the seat's roots in one cut). By AI agents, Wed Nov 11 2026. No macro, syntax, notation, axiom, sorry.
-/
import Derived.Test.YticekahpmjjmkaaChecked
import GoSem.Claim
import GoSem.ClaimJoined
import GoSem.ClaimMapViews
import Derived.JoinedTies
import Derived.KernelRfl
namespace Go.Proofs.Yticekahpmjjmkaa
/- THE CELL 'sum', in the pinned program and in every row, IS THE sha256 OF THE DUMP (.gsa) THAT YticekahpmjjmkaaProg.lean LOADS. Nothing in Lean hashes anything: it is a label: what it is worth is what the hold of that sum in a sandbox is worth. -/
noncomputable def Try.pinned : Pinned := { name := "yticekahpmjjmkaa", sum := "c1cf4fa33e186d4aaf2f52da5633bbf267a1a508db12f04a71d1ff80a6a42a23", checked := Try.checked }
namespace Rows
def none {H : Type} : Left H := { results := [], args := [] }

/-- 'laws.FnExactWindingsOf': WHATEVER THE INPUT: true; the input reads as it did. -/
def fnExactWindingsOfSpec : ChangeSpec := { name := "fnExactWindingsOf", fn := fun _ => fun
  | [d] => { results := [.lit (.bool true)], args := [d] }
  | _ => none }
def fnExactWindingsOfRow : OpenClaim := { program := "yticekahpmjjmkaa", sum := "c1cf4fa33e186d4aaf2f52da5633bbf267a1a508db12f04a71d1ff80a6a42a23", func := "loop.example/g01206/laws.FnExactWindingsOf", spec := "fnExactWindingsOf", apart := false }
def FnExactWindingsOfSaid : Prop := fnExactWindingsOfRow.holds Try.pinned (OpenSpec.ofChange fnExactWindingsOfSpec)

/-- ITS FALSE NEIGHBOUR: 'it returns false'. Refute it at one input. -/
def fnExactWindingsOfWrong : ChangeSpec := { name := "fnExactWindingsOf", fn := fun _ => fun
  | [d] => { results := [.lit (.bool false)], args := [d] }
  | _ => none }
def FnExactWindingsOfWrongFalsely : Prop := fnExactWindingsOfRow.holds Try.pinned (OpenSpec.ofChange fnExactWindingsOfWrong)

/-- 'laws.FnExactCoefficientOf': WHATEVER THE INPUT: true; the input reads as it did. -/
def fnExactCoefficientOfSpec : ChangeSpec := { name := "fnExactCoefficientOf", fn := fun _ => fun
  | [d1, d2] => { results := [.lit (.bool true)], args := [d1, d2] }
  | _ => none }
def fnExactCoefficientOfRow : OpenClaim := { program := "yticekahpmjjmkaa", sum := "c1cf4fa33e186d4aaf2f52da5633bbf267a1a508db12f04a71d1ff80a6a42a23", func := "loop.example/g01206/laws.FnExactCoefficientOf", spec := "fnExactCoefficientOf", apart := false }
def FnExactCoefficientOfSaid : Prop := fnExactCoefficientOfRow.holds Try.pinned (OpenSpec.ofChange fnExactCoefficientOfSpec)

/-- ITS FALSE NEIGHBOUR: 'it returns false'. Refute it at one input. -/
def fnExactCoefficientOfWrong : ChangeSpec := { name := "fnExactCoefficientOf", fn := fun _ => fun
  | [d1, d2] => { results := [.lit (.bool false)], args := [d1, d2] }
  | _ => none }
def FnExactCoefficientOfWrongFalsely : Prop := fnExactCoefficientOfRow.holds Try.pinned (OpenSpec.ofChange fnExactCoefficientOfWrong)

/-- 'laws.FnExactPairSum': WHATEVER THE INPUT: true; the input reads as it did. -/
def fnExactPairSumSpec : ChangeSpec := { name := "fnExactPairSum", fn := fun _ => fun
  | [d1, d2, d3] => { results := [.lit (.bool true)], args := [d1, d2, d3] }
  | _ => none }
def fnExactPairSumRow : OpenClaim := { program := "yticekahpmjjmkaa", sum := "c1cf4fa33e186d4aaf2f52da5633bbf267a1a508db12f04a71d1ff80a6a42a23", func := "loop.example/g01206/laws.FnExactPairSum", spec := "fnExactPairSum", apart := false }
def FnExactPairSumSaid : Prop := fnExactPairSumRow.holds Try.pinned (OpenSpec.ofChange fnExactPairSumSpec)

/-- ITS FALSE NEIGHBOUR: 'it returns false'. Refute it at one input. -/
def fnExactPairSumWrong : ChangeSpec := { name := "fnExactPairSum", fn := fun _ => fun
  | [d1, d2, d3] => { results := [.lit (.bool false)], args := [d1, d2, d3] }
  | _ => none }
def FnExactPairSumWrongFalsely : Prop := fnExactPairSumRow.holds Try.pinned (OpenSpec.ofChange fnExactPairSumWrong)

/-- 'laws.FnExactAreaOf': WHATEVER THE INPUT: true; the input reads as it did. -/
def fnExactAreaOfSpec : ChangeSpec := { name := "fnExactAreaOf", fn := fun _ => fun
  | [d1, d2, d3] => { results := [.lit (.bool true)], args := [d1, d2, d3] }
  | _ => none }
def fnExactAreaOfRow : OpenClaim := { program := "yticekahpmjjmkaa", sum := "c1cf4fa33e186d4aaf2f52da5633bbf267a1a508db12f04a71d1ff80a6a42a23", func := "loop.example/g01206/laws.FnExactAreaOf", spec := "fnExactAreaOf", apart := false }
def FnExactAreaOfSaid : Prop := fnExactAreaOfRow.holds Try.pinned (OpenSpec.ofChange fnExactAreaOfSpec)

/-- ITS FALSE NEIGHBOUR: 'it returns false'. Refute it at one input. -/
def fnExactAreaOfWrong : ChangeSpec := { name := "fnExactAreaOf", fn := fun _ => fun
  | [d1, d2, d3] => { results := [.lit (.bool false)], args := [d1, d2, d3] }
  | _ => none }
def FnExactAreaOfWrongFalsely : Prop := fnExactAreaOfRow.holds Try.pinned (OpenSpec.ofChange fnExactAreaOfWrong)

/-- 'laws.FnExactIsBalancedLoop': WHATEVER THE INPUT: true; the input reads as it did. -/
def fnExactIsBalancedLoopSpec : ChangeSpec := { name := "fnExactIsBalancedLoop", fn := fun _ => fun
  | [d] => { results := [.lit (.bool true)], args := [d] }
  | _ => none }
def fnExactIsBalancedLoopRow : OpenClaim := { program := "yticekahpmjjmkaa", sum := "c1cf4fa33e186d4aaf2f52da5633bbf267a1a508db12f04a71d1ff80a6a42a23", func := "loop.example/g01206/laws.FnExactIsBalancedLoop", spec := "fnExactIsBalancedLoop", apart := false }
def FnExactIsBalancedLoopSaid : Prop := fnExactIsBalancedLoopRow.holds Try.pinned (OpenSpec.ofChange fnExactIsBalancedLoopSpec)

/-- ITS FALSE NEIGHBOUR: 'it returns false'. Refute it at one input. -/
def fnExactIsBalancedLoopWrong : ChangeSpec := { name := "fnExactIsBalancedLoop", fn := fun _ => fun
  | [d] => { results := [.lit (.bool false)], args := [d] }
  | _ => none }
def FnExactIsBalancedLoopWrongFalsely : Prop := fnExactIsBalancedLoopRow.holds Try.pinned (OpenSpec.ofChange fnExactIsBalancedLoopWrong)

/-- 'laws.FnExactOrderOf': WHATEVER THE INPUT: true; the input reads as it did. -/
def fnExactOrderOfSpec : ChangeSpec := { name := "fnExactOrderOf", fn := fun _ => fun
  | [d] => { results := [.lit (.bool true)], args := [d] }
  | _ => none }
def fnExactOrderOfRow : OpenClaim := { program := "yticekahpmjjmkaa", sum := "c1cf4fa33e186d4aaf2f52da5633bbf267a1a508db12f04a71d1ff80a6a42a23", func := "loop.example/g01206/laws.FnExactOrderOf", spec := "fnExactOrderOf", apart := false }
def FnExactOrderOfSaid : Prop := fnExactOrderOfRow.holds Try.pinned (OpenSpec.ofChange fnExactOrderOfSpec)

/-- ITS FALSE NEIGHBOUR: 'it returns false'. Refute it at one input. -/
def fnExactOrderOfWrong : ChangeSpec := { name := "fnExactOrderOf", fn := fun _ => fun
  | [d] => { results := [.lit (.bool false)], args := [d] }
  | _ => none }
def FnExactOrderOfWrongFalsely : Prop := fnExactOrderOfRow.holds Try.pinned (OpenSpec.ofChange fnExactOrderOfWrong)

/-- 'laws.FnExactFirstCoefficient': WHATEVER THE INPUT: true; the input reads as it did. -/
def fnExactFirstCoefficientSpec : ChangeSpec := { name := "fnExactFirstCoefficient", fn := fun _ => fun
  | [d] => { results := [.lit (.bool true)], args := [d] }
  | _ => none }
def fnExactFirstCoefficientRow : OpenClaim := { program := "yticekahpmjjmkaa", sum := "c1cf4fa33e186d4aaf2f52da5633bbf267a1a508db12f04a71d1ff80a6a42a23", func := "loop.example/g01206/laws.FnExactFirstCoefficient", spec := "fnExactFirstCoefficient", apart := false }
def FnExactFirstCoefficientSaid : Prop := fnExactFirstCoefficientRow.holds Try.pinned (OpenSpec.ofChange fnExactFirstCoefficientSpec)

/-- ITS FALSE NEIGHBOUR: 'it returns false'. Refute it at one input. -/
def fnExactFirstCoefficientWrong : ChangeSpec := { name := "fnExactFirstCoefficient", fn := fun _ => fun
  | [d] => { results := [.lit (.bool false)], args := [d] }
  | _ => none }
def FnExactFirstCoefficientWrongFalsely : Prop := fnExactFirstCoefficientRow.holds Try.pinned (OpenSpec.ofChange fnExactFirstCoefficientWrong)

/-- 'laws.FnExactSameToOrder': WHATEVER THE INPUT: true; the input reads as it did. -/
def fnExactSameToOrderSpec : ChangeSpec := { name := "fnExactSameToOrder", fn := fun _ => fun
  | [d1, d2, d3] => { results := [.lit (.bool true)], args := [d1, d2, d3] }
  | _ => none }
def fnExactSameToOrderRow : OpenClaim := { program := "yticekahpmjjmkaa", sum := "c1cf4fa33e186d4aaf2f52da5633bbf267a1a508db12f04a71d1ff80a6a42a23", func := "loop.example/g01206/laws.FnExactSameToOrder", spec := "fnExactSameToOrder", apart := false }
def FnExactSameToOrderSaid : Prop := fnExactSameToOrderRow.holds Try.pinned (OpenSpec.ofChange fnExactSameToOrderSpec)

/-- ITS FALSE NEIGHBOUR: 'it returns false'. Refute it at one input. -/
def fnExactSameToOrderWrong : ChangeSpec := { name := "fnExactSameToOrder", fn := fun _ => fun
  | [d1, d2, d3] => { results := [.lit (.bool false)], args := [d1, d2, d3] }
  | _ => none }
def FnExactSameToOrderWrongFalsely : Prop := fnExactSameToOrderRow.holds Try.pinned (OpenSpec.ofChange fnExactSameToOrderWrong)

/-- 'laws.FnExactCountCoefficients': WHATEVER THE INPUT: true; the input reads as it did. -/
def fnExactCountCoefficientsSpec : ChangeSpec := { name := "fnExactCountCoefficients", fn := fun _ => fun
  | [d] => { results := [.lit (.bool true)], args := [d] }
  | _ => none }
def fnExactCountCoefficientsRow : OpenClaim := { program := "yticekahpmjjmkaa", sum := "c1cf4fa33e186d4aaf2f52da5633bbf267a1a508db12f04a71d1ff80a6a42a23", func := "loop.example/g01206/laws.FnExactCountCoefficients", spec := "fnExactCountCoefficients", apart := false }
def FnExactCountCoefficientsSaid : Prop := fnExactCountCoefficientsRow.holds Try.pinned (OpenSpec.ofChange fnExactCountCoefficientsSpec)

/-- ITS FALSE NEIGHBOUR: 'it returns false'. Refute it at one input. -/
def fnExactCountCoefficientsWrong : ChangeSpec := { name := "fnExactCountCoefficients", fn := fun _ => fun
  | [d] => { results := [.lit (.bool false)], args := [d] }
  | _ => none }
def FnExactCountCoefficientsWrongFalsely : Prop := fnExactCountCoefficientsRow.holds Try.pinned (OpenSpec.ofChange fnExactCountCoefficientsWrong)

/- THE SECOND FORM. 'bulk': how many values and letters a reading holds, each counted each time it is reached (what is shared counts as often as it is met; a slice's spare places count too). A statement '..UptoSaid' is the law's where the arguments, and the package variables that the reading takes, are together of bulk at most 1048576: NARROWER than '..Said'. Prove '..Said' where nothing that the law and all that it calls make is longer than what came in: it says more and counts as full. Else prove '..UptoSaid'. A law counts once. -/
mutual
def uptoBulk {H : Type} : DataW H → Nat
  | .lit (.string bytes) => bytes.length + 1
  | .lit _ => 1
  | .nil => 1
  | .ptr d => uptoBulk d + 1
  | .slice elems spare => uptoBulkAll elems + uptoBulkAll spare + 1
  | .agg parts => uptoBulkAll parts + 1
  | .iface _ d => uptoBulk d + 1
  | .map entries => uptoBulkEntries entries + 1
  | .held _ => 1
def uptoBulkAll {H : Type} : List (DataW H) → Nat
  | [] => 0
  | d :: r => uptoBulk d + uptoBulkAll r
def uptoBulkEntries {H : Type} : List (Lit × DataW H) → Nat
  | [] => 0
  | x :: r => uptoBulkEntry x + uptoBulkEntries r
def uptoBulkEntry {H : Type} : Lit × DataW H → Nat
  | (.string bytes, d) => bytes.length + uptoBulk d + 1
  | (_, d) => uptoBulk d + 1
 end
def uptoSmall : (H : Type) → List (DataW H) → Bool := fun _ ds => decide (uptoBulkAll ds ≤ 1048576)
def OpenSpec.upto (s : _root_.Go.ChangeSpec) : _root_.Go.OpenSpec := { _root_.Go.OpenSpec.ofChange s with cond := some uptoSmall }

/-- 'laws.FnExactWindingsOf', WHERE WHAT IT READS IS OF BULK AT MOST 1048576: true; the input reads as it did. -/
def fnExactWindingsOfUptoRow : OpenClaim := { program := "yticekahpmjjmkaa", sum := "c1cf4fa33e186d4aaf2f52da5633bbf267a1a508db12f04a71d1ff80a6a42a23", func := "loop.example/g01206/laws.FnExactWindingsOf", spec := "fnExactWindingsOf", apart := false, narrowed := true }
def FnExactWindingsOfUptoSaid : Prop := fnExactWindingsOfUptoRow.holds Try.pinned (OpenSpec.upto fnExactWindingsOfSpec)

/-- 'laws.FnExactCoefficientOf', WHERE WHAT IT READS IS OF BULK AT MOST 1048576: true; the input reads as it did. -/
def fnExactCoefficientOfUptoRow : OpenClaim := { program := "yticekahpmjjmkaa", sum := "c1cf4fa33e186d4aaf2f52da5633bbf267a1a508db12f04a71d1ff80a6a42a23", func := "loop.example/g01206/laws.FnExactCoefficientOf", spec := "fnExactCoefficientOf", apart := false, narrowed := true }
def FnExactCoefficientOfUptoSaid : Prop := fnExactCoefficientOfUptoRow.holds Try.pinned (OpenSpec.upto fnExactCoefficientOfSpec)

/-- 'laws.FnExactPairSum', WHERE WHAT IT READS IS OF BULK AT MOST 1048576: true; the input reads as it did. -/
def fnExactPairSumUptoRow : OpenClaim := { program := "yticekahpmjjmkaa", sum := "c1cf4fa33e186d4aaf2f52da5633bbf267a1a508db12f04a71d1ff80a6a42a23", func := "loop.example/g01206/laws.FnExactPairSum", spec := "fnExactPairSum", apart := false, narrowed := true }
def FnExactPairSumUptoSaid : Prop := fnExactPairSumUptoRow.holds Try.pinned (OpenSpec.upto fnExactPairSumSpec)

/-- 'laws.FnExactAreaOf', WHERE WHAT IT READS IS OF BULK AT MOST 1048576: true; the input reads as it did. -/
def fnExactAreaOfUptoRow : OpenClaim := { program := "yticekahpmjjmkaa", sum := "c1cf4fa33e186d4aaf2f52da5633bbf267a1a508db12f04a71d1ff80a6a42a23", func := "loop.example/g01206/laws.FnExactAreaOf", spec := "fnExactAreaOf", apart := false, narrowed := true }
def FnExactAreaOfUptoSaid : Prop := fnExactAreaOfUptoRow.holds Try.pinned (OpenSpec.upto fnExactAreaOfSpec)

/-- 'laws.FnExactIsBalancedLoop', WHERE WHAT IT READS IS OF BULK AT MOST 1048576: true; the input reads as it did. -/
def fnExactIsBalancedLoopUptoRow : OpenClaim := { program := "yticekahpmjjmkaa", sum := "c1cf4fa33e186d4aaf2f52da5633bbf267a1a508db12f04a71d1ff80a6a42a23", func := "loop.example/g01206/laws.FnExactIsBalancedLoop", spec := "fnExactIsBalancedLoop", apart := false, narrowed := true }
def FnExactIsBalancedLoopUptoSaid : Prop := fnExactIsBalancedLoopUptoRow.holds Try.pinned (OpenSpec.upto fnExactIsBalancedLoopSpec)

/-- 'laws.FnExactOrderOf', WHERE WHAT IT READS IS OF BULK AT MOST 1048576: true; the input reads as it did. -/
def fnExactOrderOfUptoRow : OpenClaim := { program := "yticekahpmjjmkaa", sum := "c1cf4fa33e186d4aaf2f52da5633bbf267a1a508db12f04a71d1ff80a6a42a23", func := "loop.example/g01206/laws.FnExactOrderOf", spec := "fnExactOrderOf", apart := false, narrowed := true }
def FnExactOrderOfUptoSaid : Prop := fnExactOrderOfUptoRow.holds Try.pinned (OpenSpec.upto fnExactOrderOfSpec)

/-- 'laws.FnExactFirstCoefficient', WHERE WHAT IT READS IS OF BULK AT MOST 1048576: true; the input reads as it did. -/
def fnExactFirstCoefficientUptoRow : OpenClaim := { program := "yticekahpmjjmkaa", sum := "c1cf4fa33e186d4aaf2f52da5633bbf267a1a508db12f04a71d1ff80a6a42a23", func := "loop.example/g01206/laws.FnExactFirstCoefficient", spec := "fnExactFirstCoefficient", apart := false, narrowed := true }
def FnExactFirstCoefficientUptoSaid : Prop := fnExactFirstCoefficientUptoRow.holds Try.pinned (OpenSpec.upto fnExactFirstCoefficientSpec)

/-- 'laws.FnExactSameToOrder', WHERE WHAT IT READS IS OF BULK AT MOST 1048576: true; the input reads as it did. -/
def fnExactSameToOrderUptoRow : OpenClaim := { program := "yticekahpmjjmkaa", sum := "c1cf4fa33e186d4aaf2f52da5633bbf267a1a508db12f04a71d1ff80a6a42a23", func := "loop.example/g01206/laws.FnExactSameToOrder", spec := "fnExactSameToOrder", apart := false, narrowed := true }
def FnExactSameToOrderUptoSaid : Prop := fnExactSameToOrderUptoRow.holds Try.pinned (OpenSpec.upto fnExactSameToOrderSpec)

/-- 'laws.FnExactCountCoefficients', WHERE WHAT IT READS IS OF BULK AT MOST 1048576: true; the input reads as it did. -/
def fnExactCountCoefficientsUptoRow : OpenClaim := { program := "yticekahpmjjmkaa", sum := "c1cf4fa33e186d4aaf2f52da5633bbf267a1a508db12f04a71d1ff80a6a42a23", func := "loop.example/g01206/laws.FnExactCountCoefficients", spec := "fnExactCountCoefficients", apart := false, narrowed := true }
def FnExactCountCoefficientsUptoSaid : Prop := fnExactCountCoefficientsUptoRow.holds Try.pinned (OpenSpec.upto fnExactCountCoefficientsSpec)

end Rows
end Go.Proofs.Yticekahpmjjmkaa
