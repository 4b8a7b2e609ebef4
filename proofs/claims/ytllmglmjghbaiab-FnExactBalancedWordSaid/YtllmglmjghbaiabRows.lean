/-
  No cell of these rows narrows 'for every input' (looked for: loops, veiled, ifaces, maps, wideKeys, modest, calm, conditions, laid).
  DERIVED. THE GIVEN ROWS OF THIS SEAT. 6 by the template 'for every input the law returns true; each argument reads behind the call as it read before'; 0 by the template 'total and deterministic' (their statements: YtllmglmjghbaiabTotals.lean).
  GIVEN WITH THE SEED: the statements are not yours to turn. If you find one false, say at which input.
  Laid BY PROGRAM, IN A SANDBOX (cutbox-rows.mjs): the forced cells as the released guide's own fill.sh prints them over the translation 5adeceb5872fafa9… (all of the seat's roots in one cut). By AI agents, Wed Nov 11 2026. No macro, syntax, notation, axiom, sorry.
-/
import Derived.Test.YtllmglmjghbaiabChecked
import GoSem.Claim
import GoSem.ClaimJoined
import GoSem.ClaimMapViews
import Derived.JoinedTies
import Derived.KernelRfl
namespace Go.Proofs.Ytllmglmjghbaiab
/- THE CELL 'sum', in the pinned program and in every row, IS THE sha256 OF THE DUMP (.gsa) THAT YtllmglmjghbaiabProg.lean LOADS. Nothing in Lean hashes anything: it is a label: what it is worth is what the hold of that sum in a sandbox is worth. -/
noncomputable def Try.pinned : Pinned := { name := "ytllmglmjghbaiab", sum := "5adeceb5872fafa9864ef327e4caf49ad829c627ff53df9d16a041eede14e153", checked := Try.checked }
namespace Rows
def none {H : Type} : Left H := { results := [], args := [] }

/-- 'laws.FnExactTreeShape': WHATEVER THE INPUT: true; the input reads as it did. -/
def fnExactTreeShapeSpec : ChangeSpec := { name := "fnExactTreeShape", fn := fun _ => fun
  | [d] => { results := [.lit (.bool true)], args := [d] }
  | _ => none }
def fnExactTreeShapeRow : OpenClaim := { program := "ytllmglmjghbaiab", sum := "5adeceb5872fafa9864ef327e4caf49ad829c627ff53df9d16a041eede14e153", func := "loop.example/g01206/laws.FnExactTreeShape", spec := "fnExactTreeShape", inPlace := ["internal/bytealg.IndexByteString", "internal/bytealg.IndexString"], recurses := true, named := ["internal/bytealg.MaxLen"], apart := false }
def FnExactTreeShapeSaid : Prop := fnExactTreeShapeRow.holds Try.pinned (OpenSpec.ofChange fnExactTreeShapeSpec)

/-- ITS FALSE NEIGHBOUR: 'it returns false'. Refute it at one input. -/
def fnExactTreeShapeWrong : ChangeSpec := { name := "fnExactTreeShape", fn := fun _ => fun
  | [d] => { results := [.lit (.bool false)], args := [d] }
  | _ => none }
def FnExactTreeShapeWrongFalsely : Prop := fnExactTreeShapeRow.holds Try.pinned (OpenSpec.ofChange fnExactTreeShapeWrong)

/-- 'laws.FnExactSwapTree': WHATEVER THE INPUT: true; the input reads as it did. -/
def fnExactSwapTreeSpec : ChangeSpec := { name := "fnExactSwapTree", fn := fun _ => fun
  | [d] => { results := [.lit (.bool true)], args := [d] }
  | _ => none }
def fnExactSwapTreeRow : OpenClaim := { program := "ytllmglmjghbaiab", sum := "5adeceb5872fafa9864ef327e4caf49ad829c627ff53df9d16a041eede14e153", func := "loop.example/g01206/laws.FnExactSwapTree", spec := "fnExactSwapTree", inPlace := ["internal/bytealg.IndexByteString", "internal/bytealg.IndexString", "internal/abi.NoEscape"], recurses := true, named := ["internal/bytealg.MaxLen"], apart := false }
def FnExactSwapTreeSaid : Prop := fnExactSwapTreeRow.holds Try.pinned (OpenSpec.ofChange fnExactSwapTreeSpec)

/-- ITS FALSE NEIGHBOUR: 'it returns false'. Refute it at one input. -/
def fnExactSwapTreeWrong : ChangeSpec := { name := "fnExactSwapTree", fn := fun _ => fun
  | [d] => { results := [.lit (.bool false)], args := [d] }
  | _ => none }
def FnExactSwapTreeWrongFalsely : Prop := fnExactSwapTreeRow.holds Try.pinned (OpenSpec.ofChange fnExactSwapTreeWrong)

/-- 'laws.FnExactLeftWord': WHATEVER THE INPUT: true; the input reads as it did. -/
def fnExactLeftWordSpec : ChangeSpec := { name := "fnExactLeftWord", fn := fun _ => fun
  | [d] => { results := [.lit (.bool true)], args := [d] }
  | _ => none }
def fnExactLeftWordRow : OpenClaim := { program := "ytllmglmjghbaiab", sum := "5adeceb5872fafa9864ef327e4caf49ad829c627ff53df9d16a041eede14e153", func := "loop.example/g01206/laws.FnExactLeftWord", spec := "fnExactLeftWord", recurses := true, apart := false }
def FnExactLeftWordSaid : Prop := fnExactLeftWordRow.holds Try.pinned (OpenSpec.ofChange fnExactLeftWordSpec)

/-- ITS FALSE NEIGHBOUR: 'it returns false'. Refute it at one input. -/
def fnExactLeftWordWrong : ChangeSpec := { name := "fnExactLeftWord", fn := fun _ => fun
  | [d] => { results := [.lit (.bool false)], args := [d] }
  | _ => none }
def FnExactLeftWordWrongFalsely : Prop := fnExactLeftWordRow.holds Try.pinned (OpenSpec.ofChange fnExactLeftWordWrong)

/-- 'laws.FnExactBalancedWord': WHATEVER THE INPUT: true; the input reads as it did. -/
def fnExactBalancedWordSpec : ChangeSpec := { name := "fnExactBalancedWord", fn := fun _ => fun
  | [d] => { results := [.lit (.bool true)], args := [d] }
  | _ => none }
def fnExactBalancedWordRow : OpenClaim := { program := "ytllmglmjghbaiab", sum := "5adeceb5872fafa9864ef327e4caf49ad829c627ff53df9d16a041eede14e153", func := "loop.example/g01206/laws.FnExactBalancedWord", spec := "fnExactBalancedWord", recurses := true, apart := false }
def FnExactBalancedWordSaid : Prop := fnExactBalancedWordRow.holds Try.pinned (OpenSpec.ofChange fnExactBalancedWordSpec)

/-- ITS FALSE NEIGHBOUR: 'it returns false'. Refute it at one input. -/
def fnExactBalancedWordWrong : ChangeSpec := { name := "fnExactBalancedWord", fn := fun _ => fun
  | [d] => { results := [.lit (.bool false)], args := [d] }
  | _ => none }
def FnExactBalancedWordWrongFalsely : Prop := fnExactBalancedWordRow.holds Try.pinned (OpenSpec.ofChange fnExactBalancedWordWrong)

/-- 'laws.FnExactLeftLength': WHATEVER THE INPUT: true; the input reads as it did. -/
def fnExactLeftLengthSpec : ChangeSpec := { name := "fnExactLeftLength", fn := fun _ => fun
  | [d] => { results := [.lit (.bool true)], args := [d] }
  | _ => none }
def fnExactLeftLengthRow : OpenClaim := { program := "ytllmglmjghbaiab", sum := "5adeceb5872fafa9864ef327e4caf49ad829c627ff53df9d16a041eede14e153", func := "loop.example/g01206/laws.FnExactLeftLength", spec := "fnExactLeftLength", apart := false }
def FnExactLeftLengthSaid : Prop := fnExactLeftLengthRow.holds Try.pinned (OpenSpec.ofChange fnExactLeftLengthSpec)

/-- ITS FALSE NEIGHBOUR: 'it returns false'. Refute it at one input. -/
def fnExactLeftLengthWrong : ChangeSpec := { name := "fnExactLeftLength", fn := fun _ => fun
  | [d] => { results := [.lit (.bool false)], args := [d] }
  | _ => none }
def FnExactLeftLengthWrongFalsely : Prop := fnExactLeftLengthRow.holds Try.pinned (OpenSpec.ofChange fnExactLeftLengthWrong)

/-- 'laws.FnExactBalancedLength': WHATEVER THE INPUT: true; the input reads as it did. -/
def fnExactBalancedLengthSpec : ChangeSpec := { name := "fnExactBalancedLength", fn := fun _ => fun
  | [d] => { results := [.lit (.bool true)], args := [d] }
  | _ => none }
def fnExactBalancedLengthRow : OpenClaim := { program := "ytllmglmjghbaiab", sum := "5adeceb5872fafa9864ef327e4caf49ad829c627ff53df9d16a041eede14e153", func := "loop.example/g01206/laws.FnExactBalancedLength", spec := "fnExactBalancedLength", recurses := true, apart := false }
def FnExactBalancedLengthSaid : Prop := fnExactBalancedLengthRow.holds Try.pinned (OpenSpec.ofChange fnExactBalancedLengthSpec)

/-- ITS FALSE NEIGHBOUR: 'it returns false'. Refute it at one input. -/
def fnExactBalancedLengthWrong : ChangeSpec := { name := "fnExactBalancedLength", fn := fun _ => fun
  | [d] => { results := [.lit (.bool false)], args := [d] }
  | _ => none }
def FnExactBalancedLengthWrongFalsely : Prop := fnExactBalancedLengthRow.holds Try.pinned (OpenSpec.ofChange fnExactBalancedLengthWrong)

/- THE SECOND FORM. 'bulk': how many values and letters a reading holds, each counted each time it is reached (what is shared counts as often as it is met; a slice's spare places count too). A statement '..UptoSaid' is the law's where the arguments, and the package variables that the reading takes, are together of bulk at most 1048576: NARROWER than '..Said'. Prove '..Said' where nothing that the law and all that it calls make is longer than what came in: it says more and counts as full. Else prove '..UptoSaid'. A law counts once. -/
mutual
def uptoBulk {H : Type} : DataW H → Nat
  | .lit (.string bytes) => bytes.length + 1
  | .lit _ => 1
  | .nil => 1
  | .ptr d => uptoBulk d + 1
  | .slice elems spare => uptoBulkAll elems + uptoBulkAll spare + 1
  | .agg parts => uptoBulkAll parts + 1
  | .iface _ d => uptoBulk d + 1
  | .map entries => uptoBulkEntries entries + 1
  | .held _ => 1
def uptoBulkAll {H : Type} : List (DataW H) → Nat
  | [] => 0
  | d :: r => uptoBulk d + uptoBulkAll r
def uptoBulkEntries {H : Type} : List (Lit × DataW H) → Nat
  | [] => 0
  | x :: r => uptoBulkEntry x + uptoBulkEntries r
def uptoBulkEntry {H : Type} : Lit × DataW H → Nat
  | (.string bytes, d) => bytes.length + uptoBulk d + 1
  | (_, d) => uptoBulk d + 1
 end
def uptoSmall : (H : Type) → List (DataW H) → Bool := fun _ ds => decide (uptoBulkAll ds ≤ 1048576)
def OpenSpec.upto (s : _root_.Go.ChangeSpec) : _root_.Go.OpenSpec := { _root_.Go.OpenSpec.ofChange s with cond := some uptoSmall }

/-- 'laws.FnExactTreeShape', WHERE WHAT IT READS IS OF BULK AT MOST 1048576: true; the input reads as it did. -/
def fnExactTreeShapeUptoRow : OpenClaim := { program := "ytllmglmjghbaiab", sum := "5adeceb5872fafa9864ef327e4caf49ad829c627ff53df9d16a041eede14e153", func := "loop.example/g01206/laws.FnExactTreeShape", spec := "fnExactTreeShape", inPlace := ["internal/bytealg.IndexByteString", "internal/bytealg.IndexString"], recurses := true, named := ["internal/bytealg.MaxLen"], apart := false, narrowed := true }
def FnExactTreeShapeUptoSaid : Prop := fnExactTreeShapeUptoRow.holds Try.pinned (OpenSpec.upto fnExactTreeShapeSpec)

/-- 'laws.FnExactSwapTree', WHERE WHAT IT READS IS OF BULK AT MOST 1048576: true; the input reads as it did. -/
def fnExactSwapTreeUptoRow : OpenClaim := { program := "ytllmglmjghbaiab", sum := "5adeceb5872fafa9864ef327e4caf49ad829c627ff53df9d16a041eede14e153", func := "loop.example/g01206/laws.FnExactSwapTree", spec := "fnExactSwapTree", inPlace := ["internal/bytealg.IndexByteString", "internal/bytealg.IndexString", "internal/abi.NoEscape"], recurses := true, named := ["internal/bytealg.MaxLen"], apart := false, narrowed := true }
def FnExactSwapTreeUptoSaid : Prop := fnExactSwapTreeUptoRow.holds Try.pinned (OpenSpec.upto fnExactSwapTreeSpec)

/-- 'laws.FnExactLeftWord', WHERE WHAT IT READS IS OF BULK AT MOST 1048576: true; the input reads as it did. -/
def fnExactLeftWordUptoRow : OpenClaim := { program := "ytllmglmjghbaiab", sum := "5adeceb5872fafa9864ef327e4caf49ad829c627ff53df9d16a041eede14e153", func := "loop.example/g01206/laws.FnExactLeftWord", spec := "fnExactLeftWord", recurses := true, apart := false, narrowed := true }
def FnExactLeftWordUptoSaid : Prop := fnExactLeftWordUptoRow.holds Try.pinned (OpenSpec.upto fnExactLeftWordSpec)

/-- 'laws.FnExactBalancedWord', WHERE WHAT IT READS IS OF BULK AT MOST 1048576: true; the input reads as it did. -/
def fnExactBalancedWordUptoRow : OpenClaim := { program := "ytllmglmjghbaiab", sum := "5adeceb5872fafa9864ef327e4caf49ad829c627ff53df9d16a041eede14e153", func := "loop.example/g01206/laws.FnExactBalancedWord", spec := "fnExactBalancedWord", recurses := true, apart := false, narrowed := true }
def FnExactBalancedWordUptoSaid : Prop := fnExactBalancedWordUptoRow.holds Try.pinned (OpenSpec.upto fnExactBalancedWordSpec)

/-- 'laws.FnExactLeftLength', WHERE WHAT IT READS IS OF BULK AT MOST 1048576: true; the input reads as it did. -/
def fnExactLeftLengthUptoRow : OpenClaim := { program := "ytllmglmjghbaiab", sum := "5adeceb5872fafa9864ef327e4caf49ad829c627ff53df9d16a041eede14e153", func := "loop.example/g01206/laws.FnExactLeftLength", spec := "fnExactLeftLength", apart := false, narrowed := true }
def FnExactLeftLengthUptoSaid : Prop := fnExactLeftLengthUptoRow.holds Try.pinned (OpenSpec.upto fnExactLeftLengthSpec)

/-- 'laws.FnExactBalancedLength', WHERE WHAT IT READS IS OF BULK AT MOST 1048576: true; the input reads as it did. -/
def fnExactBalancedLengthUptoRow : OpenClaim := { program := "ytllmglmjghbaiab", sum := "5adeceb5872fafa9864ef327e4caf49ad829c627ff53df9d16a041eede14e153", func := "loop.example/g01206/laws.FnExactBalancedLength", spec := "fnExactBalancedLength", recurses := true, apart := false, narrowed := true }
def FnExactBalancedLengthUptoSaid : Prop := fnExactBalancedLengthUptoRow.holds Try.pinned (OpenSpec.upto fnExactBalancedLengthSpec)

end Rows
end Go.Proofs.Ytllmglmjghbaiab
