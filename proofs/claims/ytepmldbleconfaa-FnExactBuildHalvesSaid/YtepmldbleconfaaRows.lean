/-
  No cell of these rows narrows 'for every input' (looked for: loops, veiled, ifaces, maps, wideKeys, modest, calm, conditions, laid).
  DERIVED. THE GIVEN ROWS OF THIS SEAT. 11 by the template 'for every input the law returns true; each argument reads behind the call as it read before'; 0 by the template 'total and deterministic' (their statements: YtepmldbleconfaaTotals.lean).
  GIVEN WITH THE SEED: the statements are not yours to turn. If you find one false, say at which input.
  Laid BY PROGRAM, IN A SANDBOX (cutbox-rows.mjs): the forced cells as the released guide's own fill.sh prints them over the translation ceb9cca6df6a08d0… (all of the seat's roots in one cut). By AI agents, Wed Nov 11 2026. No macro, syntax, notation, axiom, sorry.
-/
import Derived.Test.YtepmldbleconfaaChecked
import GoSem.Claim
import GoSem.ClaimJoined
import GoSem.ClaimMapViews
import Derived.JoinedTies
import Derived.KernelRfl
namespace Go.Proofs.Ytepmldbleconfaa
/- THE CELL 'sum', in the pinned program and in every row, IS THE sha256 OF THE DUMP (.gsa) THAT YtepmldbleconfaaProg.lean LOADS. Nothing in Lean hashes anything: it is a label: what it is worth is what the hold of that sum in a sandbox is worth. -/
noncomputable def Try.pinned : Pinned := { name := "ytepmldbleconfaa", sum := "ceb9cca6df6a08d0e3b638c24bc2dcfe3da7b4e98d43cd3f361962d61c815118", checked := Try.checked }
namespace Rows
def none {H : Type} : Left H := { results := [], args := [] }

/-- 'laws.FnExactIsWordFor': WHATEVER THE INPUT: true; the input reads as it did. -/
def fnExactIsWordForSpec : ChangeSpec := { name := "fnExactIsWordFor", fn := fun _ => fun
  | [d1, d2] => { results := [.lit (.bool true)], args := [d1, d2] }
  | _ => none }
def fnExactIsWordForRow : OpenClaim := { program := "ytepmldbleconfaa", sum := "ceb9cca6df6a08d0e3b638c24bc2dcfe3da7b4e98d43cd3f361962d61c815118", func := "loop.example/g01206/laws.FnExactIsWordFor", spec := "fnExactIsWordFor", unfollowed := true, recurses := true, apart := false }
def FnExactIsWordForSaid : Prop := fnExactIsWordForRow.holds Try.pinned (OpenSpec.ofChange fnExactIsWordForSpec)

/-- ITS FALSE NEIGHBOUR: 'it returns false'. Refute it at one input. -/
def fnExactIsWordForWrong : ChangeSpec := { name := "fnExactIsWordFor", fn := fun _ => fun
  | [d1, d2] => { results := [.lit (.bool false)], args := [d1, d2] }
  | _ => none }
def FnExactIsWordForWrongFalsely : Prop := fnExactIsWordForRow.holds Try.pinned (OpenSpec.ofChange fnExactIsWordForWrong)

/-- 'laws.FnExactSetWord': WHATEVER THE INPUT: true; the input reads as it did. -/
def fnExactSetWordSpec : ChangeSpec := { name := "fnExactSetWord", fn := fun _ => fun
  | [d] => { results := [.lit (.bool true)], args := [d] }
  | _ => none }
def fnExactSetWordRow : OpenClaim := { program := "ytepmldbleconfaa", sum := "ceb9cca6df6a08d0e3b638c24bc2dcfe3da7b4e98d43cd3f361962d61c815118", func := "loop.example/g01206/laws.FnExactSetWord", spec := "fnExactSetWord", apart := false }
def FnExactSetWordSaid : Prop := fnExactSetWordRow.holds Try.pinned (OpenSpec.ofChange fnExactSetWordSpec)

/-- ITS FALSE NEIGHBOUR: 'it returns false'. Refute it at one input. -/
def fnExactSetWordWrong : ChangeSpec := { name := "fnExactSetWord", fn := fun _ => fun
  | [d] => { results := [.lit (.bool false)], args := [d] }
  | _ => none }
def FnExactSetWordWrongFalsely : Prop := fnExactSetWordRow.holds Try.pinned (OpenSpec.ofChange fnExactSetWordWrong)

/-- 'laws.FnExactKeyAt': WHATEVER THE INPUT: true; the input reads as it did. -/
def fnExactKeyAtSpec : ChangeSpec := { name := "fnExactKeyAt", fn := fun _ => fun
  | [d] => { results := [.lit (.bool true)], args := [d] }
  | _ => none }
def fnExactKeyAtRow : OpenClaim := { program := "ytepmldbleconfaa", sum := "ceb9cca6df6a08d0e3b638c24bc2dcfe3da7b4e98d43cd3f361962d61c815118", func := "loop.example/g01206/laws.FnExactKeyAt", spec := "fnExactKeyAt", apart := false }
def FnExactKeyAtSaid : Prop := fnExactKeyAtRow.holds Try.pinned (OpenSpec.ofChange fnExactKeyAtSpec)

/-- ITS FALSE NEIGHBOUR: 'it returns false'. Refute it at one input. -/
def fnExactKeyAtWrong : ChangeSpec := { name := "fnExactKeyAt", fn := fun _ => fun
  | [d] => { results := [.lit (.bool false)], args := [d] }
  | _ => none }
def FnExactKeyAtWrongFalsely : Prop := fnExactKeyAtRow.holds Try.pinned (OpenSpec.ofChange fnExactKeyAtWrong)

/-- 'laws.FnExactOrWord': WHATEVER THE INPUT: true; the input reads as it did. -/
def fnExactOrWordSpec : ChangeSpec := { name := "fnExactOrWord", fn := fun _ => fun
  | [d1, d2] => { results := [.lit (.bool true)], args := [d1, d2] }
  | _ => none }
def fnExactOrWordRow : OpenClaim := { program := "ytepmldbleconfaa", sum := "ceb9cca6df6a08d0e3b638c24bc2dcfe3da7b4e98d43cd3f361962d61c815118", func := "loop.example/g01206/laws.FnExactOrWord", spec := "fnExactOrWord", unfollowed := true, recurses := true, apart := false }
def FnExactOrWordSaid : Prop := fnExactOrWordRow.holds Try.pinned (OpenSpec.ofChange fnExactOrWordSpec)

/-- ITS FALSE NEIGHBOUR: 'it returns false'. Refute it at one input. -/
def fnExactOrWordWrong : ChangeSpec := { name := "fnExactOrWord", fn := fun _ => fun
  | [d1, d2] => { results := [.lit (.bool false)], args := [d1, d2] }
  | _ => none }
def FnExactOrWordWrongFalsely : Prop := fnExactOrWordRow.holds Try.pinned (OpenSpec.ofChange fnExactOrWordWrong)

/-- 'laws.FnExactAndWord': WHATEVER THE INPUT: true; the input reads as it did. -/
def fnExactAndWordSpec : ChangeSpec := { name := "fnExactAndWord", fn := fun _ => fun
  | [d1, d2] => { results := [.lit (.bool true)], args := [d1, d2] }
  | _ => none }
def fnExactAndWordRow : OpenClaim := { program := "ytepmldbleconfaa", sum := "ceb9cca6df6a08d0e3b638c24bc2dcfe3da7b4e98d43cd3f361962d61c815118", func := "loop.example/g01206/laws.FnExactAndWord", spec := "fnExactAndWord", unfollowed := true, recurses := true, apart := false }
def FnExactAndWordSaid : Prop := fnExactAndWordRow.holds Try.pinned (OpenSpec.ofChange fnExactAndWordSpec)

/-- ITS FALSE NEIGHBOUR: 'it returns false'. Refute it at one input. -/
def fnExactAndWordWrong : ChangeSpec := { name := "fnExactAndWord", fn := fun _ => fun
  | [d1, d2] => { results := [.lit (.bool false)], args := [d1, d2] }
  | _ => none }
def FnExactAndWordWrongFalsely : Prop := fnExactAndWordRow.holds Try.pinned (OpenSpec.ofChange fnExactAndWordWrong)

/-- 'laws.FnExactBuildWord': WHATEVER THE INPUT: true; the input reads as it did. -/
def fnExactBuildWordSpec : ChangeSpec := { name := "fnExactBuildWord", fn := fun _ => fun
  | [d] => { results := [.lit (.bool true)], args := [d] }
  | _ => none }
def fnExactBuildWordRow : OpenClaim := { program := "ytepmldbleconfaa", sum := "ceb9cca6df6a08d0e3b638c24bc2dcfe3da7b4e98d43cd3f361962d61c815118", func := "loop.example/g01206/laws.FnExactBuildWord", spec := "fnExactBuildWord", unfollowed := true, recurses := true, apart := false }
def FnExactBuildWordSaid : Prop := fnExactBuildWordRow.holds Try.pinned (OpenSpec.ofChange fnExactBuildWordSpec)

/-- ITS FALSE NEIGHBOUR: 'it returns false'. Refute it at one input. -/
def fnExactBuildWordWrong : ChangeSpec := { name := "fnExactBuildWord", fn := fun _ => fun
  | [d] => { results := [.lit (.bool false)], args := [d] }
  | _ => none }
def FnExactBuildWordWrongFalsely : Prop := fnExactBuildWordRow.holds Try.pinned (OpenSpec.ofChange fnExactBuildWordWrong)

/-- 'laws.FnExactBuildHalves': WHATEVER THE INPUT: true; the input reads as it did. -/
def fnExactBuildHalvesSpec : ChangeSpec := { name := "fnExactBuildHalves", fn := fun _ => fun
  | [d] => { results := [.lit (.bool true)], args := [d] }
  | _ => none }
def fnExactBuildHalvesRow : OpenClaim := { program := "ytepmldbleconfaa", sum := "ceb9cca6df6a08d0e3b638c24bc2dcfe3da7b4e98d43cd3f361962d61c815118", func := "loop.example/g01206/laws.FnExactBuildHalves", spec := "fnExactBuildHalves", unfollowed := true, recurses := true, apart := false }
def FnExactBuildHalvesSaid : Prop := fnExactBuildHalvesRow.holds Try.pinned (OpenSpec.ofChange fnExactBuildHalvesSpec)

/-- ITS FALSE NEIGHBOUR: 'it returns false'. Refute it at one input. -/
def fnExactBuildHalvesWrong : ChangeSpec := { name := "fnExactBuildHalves", fn := fun _ => fun
  | [d] => { results := [.lit (.bool false)], args := [d] }
  | _ => none }
def FnExactBuildHalvesWrongFalsely : Prop := fnExactBuildHalvesRow.holds Try.pinned (OpenSpec.ofChange fnExactBuildHalvesWrong)

/-- 'laws.FnExactTrimWord': WHATEVER THE INPUT: true; the input reads as it did. -/
def fnExactTrimWordSpec : ChangeSpec := { name := "fnExactTrimWord", fn := fun _ => fun
  | [d] => { results := [.lit (.bool true)], args := [d] }
  | _ => none }
def fnExactTrimWordRow : OpenClaim := { program := "ytepmldbleconfaa", sum := "ceb9cca6df6a08d0e3b638c24bc2dcfe3da7b4e98d43cd3f361962d61c815118", func := "loop.example/g01206/laws.FnExactTrimWord", spec := "fnExactTrimWord", unfollowed := true, recurses := true, apart := false }
def FnExactTrimWordSaid : Prop := fnExactTrimWordRow.holds Try.pinned (OpenSpec.ofChange fnExactTrimWordSpec)

/-- ITS FALSE NEIGHBOUR: 'it returns false'. Refute it at one input. -/
def fnExactTrimWordWrong : ChangeSpec := { name := "fnExactTrimWord", fn := fun _ => fun
  | [d] => { results := [.lit (.bool false)], args := [d] }
  | _ => none }
def FnExactTrimWordWrongFalsely : Prop := fnExactTrimWordRow.holds Try.pinned (OpenSpec.ofChange fnExactTrimWordWrong)

/-- 'laws.FnExactCostOf': WHATEVER THE INPUT: true; the input reads as it did. -/
def fnExactCostOfSpec : ChangeSpec := { name := "fnExactCostOf", fn := fun _ => fun
  | [d] => { results := [.lit (.bool true)], args := [d] }
  | _ => none }
def fnExactCostOfRow : OpenClaim := { program := "ytepmldbleconfaa", sum := "ceb9cca6df6a08d0e3b638c24bc2dcfe3da7b4e98d43cd3f361962d61c815118", func := "loop.example/g01206/laws.FnExactCostOf", spec := "fnExactCostOf", unfollowed := true, recurses := true, apart := false }
def FnExactCostOfSaid : Prop := fnExactCostOfRow.holds Try.pinned (OpenSpec.ofChange fnExactCostOfSpec)

/-- ITS FALSE NEIGHBOUR: 'it returns false'. Refute it at one input. -/
def fnExactCostOfWrong : ChangeSpec := { name := "fnExactCostOf", fn := fun _ => fun
  | [d] => { results := [.lit (.bool false)], args := [d] }
  | _ => none }
def FnExactCostOfWrongFalsely : Prop := fnExactCostOfRow.holds Try.pinned (OpenSpec.ofChange fnExactCostOfWrong)

/-- 'laws.FnExactConjugateWord': WHATEVER THE INPUT: true; the input reads as it did. -/
def fnExactConjugateWordSpec : ChangeSpec := { name := "fnExactConjugateWord", fn := fun _ => fun
  | [d1, d2] => { results := [.lit (.bool true)], args := [d1, d2] }
  | _ => none }
def fnExactConjugateWordRow : OpenClaim := { program := "ytepmldbleconfaa", sum := "ceb9cca6df6a08d0e3b638c24bc2dcfe3da7b4e98d43cd3f361962d61c815118", func := "loop.example/g01206/laws.FnExactConjugateWord", spec := "fnExactConjugateWord", apart := false }
def FnExactConjugateWordSaid : Prop := fnExactConjugateWordRow.holds Try.pinned (OpenSpec.ofChange fnExactConjugateWordSpec)

/-- ITS FALSE NEIGHBOUR: 'it returns false'. Refute it at one input. -/
def fnExactConjugateWordWrong : ChangeSpec := { name := "fnExactConjugateWord", fn := fun _ => fun
  | [d1, d2] => { results := [.lit (.bool false)], args := [d1, d2] }
  | _ => none }
def FnExactConjugateWordWrongFalsely : Prop := fnExactConjugateWordRow.holds Try.pinned (OpenSpec.ofChange fnExactConjugateWordWrong)

/-- 'laws.FnExactCommutatorOf': WHATEVER THE INPUT: true; the input reads as it did. -/
def fnExactCommutatorOfSpec : ChangeSpec := { name := "fnExactCommutatorOf", fn := fun _ => fun
  | [d1, d2] => { results := [.lit (.bool true)], args := [d1, d2] }
  | _ => none }
def fnExactCommutatorOfRow : OpenClaim := { program := "ytepmldbleconfaa", sum := "ceb9cca6df6a08d0e3b638c24bc2dcfe3da7b4e98d43cd3f361962d61c815118", func := "loop.example/g01206/laws.FnExactCommutatorOf", spec := "fnExactCommutatorOf", apart := false }
def FnExactCommutatorOfSaid : Prop := fnExactCommutatorOfRow.holds Try.pinned (OpenSpec.ofChange fnExactCommutatorOfSpec)

/-- ITS FALSE NEIGHBOUR: 'it returns false'. Refute it at one input. -/
def fnExactCommutatorOfWrong : ChangeSpec := { name := "fnExactCommutatorOf", fn := fun _ => fun
  | [d1, d2] => { results := [.lit (.bool false)], args := [d1, d2] }
  | _ => none }
def FnExactCommutatorOfWrongFalsely : Prop := fnExactCommutatorOfRow.holds Try.pinned (OpenSpec.ofChange fnExactCommutatorOfWrong)

/- THE SECOND FORM. 'bulk': how many values and letters a reading holds, each counted each time it is reached (what is shared counts as often as it is met; a slice's spare places count too). A statement '..UptoSaid' is the law's where the arguments, and the package variables that the reading takes, are together of bulk at most 1048576: NARROWER than '..Said'. Prove '..Said' where nothing that the law and all that it calls make is longer than what came in: it says more and counts as full. Else prove '..UptoSaid'. A law counts once. -/
mutual
def uptoBulk {H : Type} : DataW H → Nat
  | .lit (.string bytes) => bytes.length + 1
  | .lit _ => 1
  | .nil => 1
  | .ptr d => uptoBulk d + 1
  | .slice elems spare => uptoBulkAll elems + uptoBulkAll spare + 1
  | .agg parts => uptoBulkAll parts + 1
  | .iface _ d => uptoBulk d + 1
  | .map entries => uptoBulkEntries entries + 1
  | .held _ => 1
def uptoBulkAll {H : Type} : List (DataW H) → Nat
  | [] => 0
  | d :: r => uptoBulk d + uptoBulkAll r
def uptoBulkEntries {H : Type} : List (Lit × DataW H) → Nat
  | [] => 0
  | x :: r => uptoBulkEntry x + uptoBulkEntries r
def uptoBulkEntry {H : Type} : Lit × DataW H → Nat
  | (.string bytes, d) => bytes.length + uptoBulk d + 1
  | (_, d) => uptoBulk d + 1
 end
def uptoSmall : (H : Type) → List (DataW H) → Bool := fun _ ds => decide (uptoBulkAll ds ≤ 1048576)
def OpenSpec.upto (s : _root_.Go.ChangeSpec) : _root_.Go.OpenSpec := { _root_.Go.OpenSpec.ofChange s with cond := some uptoSmall }

/-- 'laws.FnExactIsWordFor', WHERE WHAT IT READS IS OF BULK AT MOST 1048576: true; the input reads as it did. -/
def fnExactIsWordForUptoRow : OpenClaim := { program := "ytepmldbleconfaa", sum := "ceb9cca6df6a08d0e3b638c24bc2dcfe3da7b4e98d43cd3f361962d61c815118", func := "loop.example/g01206/laws.FnExactIsWordFor", spec := "fnExactIsWordFor", unfollowed := true, recurses := true, apart := false, narrowed := true }
def FnExactIsWordForUptoSaid : Prop := fnExactIsWordForUptoRow.holds Try.pinned (OpenSpec.upto fnExactIsWordForSpec)

/-- 'laws.FnExactSetWord', WHERE WHAT IT READS IS OF BULK AT MOST 1048576: true; the input reads as it did. -/
def fnExactSetWordUptoRow : OpenClaim := { program := "ytepmldbleconfaa", sum := "ceb9cca6df6a08d0e3b638c24bc2dcfe3da7b4e98d43cd3f361962d61c815118", func := "loop.example/g01206/laws.FnExactSetWord", spec := "fnExactSetWord", apart := false, narrowed := true }
def FnExactSetWordUptoSaid : Prop := fnExactSetWordUptoRow.holds Try.pinned (OpenSpec.upto fnExactSetWordSpec)

/-- 'laws.FnExactKeyAt', WHERE WHAT IT READS IS OF BULK AT MOST 1048576: true; the input reads as it did. -/
def fnExactKeyAtUptoRow : OpenClaim := { program := "ytepmldbleconfaa", sum := "ceb9cca6df6a08d0e3b638c24bc2dcfe3da7b4e98d43cd3f361962d61c815118", func := "loop.example/g01206/laws.FnExactKeyAt", spec := "fnExactKeyAt", apart := false, narrowed := true }
def FnExactKeyAtUptoSaid : Prop := fnExactKeyAtUptoRow.holds Try.pinned (OpenSpec.upto fnExactKeyAtSpec)

/-- 'laws.FnExactOrWord', WHERE WHAT IT READS IS OF BULK AT MOST 1048576: true; the input reads as it did. -/
def fnExactOrWordUptoRow : OpenClaim := { program := "ytepmldbleconfaa", sum := "ceb9cca6df6a08d0e3b638c24bc2dcfe3da7b4e98d43cd3f361962d61c815118", func := "loop.example/g01206/laws.FnExactOrWord", spec := "fnExactOrWord", unfollowed := true, recurses := true, apart := false, narrowed := true }
def FnExactOrWordUptoSaid : Prop := fnExactOrWordUptoRow.holds Try.pinned (OpenSpec.upto fnExactOrWordSpec)

/-- 'laws.FnExactAndWord', WHERE WHAT IT READS IS OF BULK AT MOST 1048576: true; the input reads as it did. -/
def fnExactAndWordUptoRow : OpenClaim := { program := "ytepmldbleconfaa", sum := "ceb9cca6df6a08d0e3b638c24bc2dcfe3da7b4e98d43cd3f361962d61c815118", func := "loop.example/g01206/laws.FnExactAndWord", spec := "fnExactAndWord", unfollowed := true, recurses := true, apart := false, narrowed := true }
def FnExactAndWordUptoSaid : Prop := fnExactAndWordUptoRow.holds Try.pinned (OpenSpec.upto fnExactAndWordSpec)

/-- 'laws.FnExactBuildWord', WHERE WHAT IT READS IS OF BULK AT MOST 1048576: true; the input reads as it did. -/
def fnExactBuildWordUptoRow : OpenClaim := { program := "ytepmldbleconfaa", sum := "ceb9cca6df6a08d0e3b638c24bc2dcfe3da7b4e98d43cd3f361962d61c815118", func := "loop.example/g01206/laws.FnExactBuildWord", spec := "fnExactBuildWord", unfollowed := true, recurses := true, apart := false, narrowed := true }
def FnExactBuildWordUptoSaid : Prop := fnExactBuildWordUptoRow.holds Try.pinned (OpenSpec.upto fnExactBuildWordSpec)

/-- 'laws.FnExactBuildHalves', WHERE WHAT IT READS IS OF BULK AT MOST 1048576: true; the input reads as it did. -/
def fnExactBuildHalvesUptoRow : OpenClaim := { program := "ytepmldbleconfaa", sum := "ceb9cca6df6a08d0e3b638c24bc2dcfe3da7b4e98d43cd3f361962d61c815118", func := "loop.example/g01206/laws.FnExactBuildHalves", spec := "fnExactBuildHalves", unfollowed := true, recurses := true, apart := false, narrowed := true }
def FnExactBuildHalvesUptoSaid : Prop := fnExactBuildHalvesUptoRow.holds Try.pinned (OpenSpec.upto fnExactBuildHalvesSpec)

/-- 'laws.FnExactTrimWord', WHERE WHAT IT READS IS OF BULK AT MOST 1048576: true; the input reads as it did. -/
def fnExactTrimWordUptoRow : OpenClaim := { program := "ytepmldbleconfaa", sum := "ceb9cca6df6a08d0e3b638c24bc2dcfe3da7b4e98d43cd3f361962d61c815118", func := "loop.example/g01206/laws.FnExactTrimWord", spec := "fnExactTrimWord", unfollowed := true, recurses := true, apart := false, narrowed := true }
def FnExactTrimWordUptoSaid : Prop := fnExactTrimWordUptoRow.holds Try.pinned (OpenSpec.upto fnExactTrimWordSpec)

/-- 'laws.FnExactCostOf', WHERE WHAT IT READS IS OF BULK AT MOST 1048576: true; the input reads as it did. -/
def fnExactCostOfUptoRow : OpenClaim := { program := "ytepmldbleconfaa", sum := "ceb9cca6df6a08d0e3b638c24bc2dcfe3da7b4e98d43cd3f361962d61c815118", func := "loop.example/g01206/laws.FnExactCostOf", spec := "fnExactCostOf", unfollowed := true, recurses := true, apart := false, narrowed := true }
def FnExactCostOfUptoSaid : Prop := fnExactCostOfUptoRow.holds Try.pinned (OpenSpec.upto fnExactCostOfSpec)

/-- 'laws.FnExactConjugateWord', WHERE WHAT IT READS IS OF BULK AT MOST 1048576: true; the input reads as it did. -/
def fnExactConjugateWordUptoRow : OpenClaim := { program := "ytepmldbleconfaa", sum := "ceb9cca6df6a08d0e3b638c24bc2dcfe3da7b4e98d43cd3f361962d61c815118", func := "loop.example/g01206/laws.FnExactConjugateWord", spec := "fnExactConjugateWord", apart := false, narrowed := true }
def FnExactConjugateWordUptoSaid : Prop := fnExactConjugateWordUptoRow.holds Try.pinned (OpenSpec.upto fnExactConjugateWordSpec)

/-- 'laws.FnExactCommutatorOf', WHERE WHAT IT READS IS OF BULK AT MOST 1048576: true; the input reads as it did. -/
def fnExactCommutatorOfUptoRow : OpenClaim := { program := "ytepmldbleconfaa", sum := "ceb9cca6df6a08d0e3b638c24bc2dcfe3da7b4e98d43cd3f361962d61c815118", func := "loop.example/g01206/laws.FnExactCommutatorOf", spec := "fnExactCommutatorOf", apart := false, narrowed := true }
def FnExactCommutatorOfUptoSaid : Prop := fnExactCommutatorOfUptoRow.holds Try.pinned (OpenSpec.upto fnExactCommutatorOfSpec)

end Rows
end Go.Proofs.Ytepmldbleconfaa
