/-
  No cell of these rows narrows 'for every input' (looked for: loops, veiled, ifaces, maps, wideKeys, modest, calm, conditions, laid).
  DERIVED. THE GIVEN ROWS OF THIS SEAT. 5 by the template 'for every input the law returns true; each argument reads behind the call as it read before'; 0 by the template 'total and deterministic' (their statements: YtobjifggelmhcaaTotals.lean).
  GIVEN WITH THE SEED: the statements are not yours to turn. If you find one false, say at which input.
  Laid BY PROGRAM, IN A SANDBOX (cutbox-rows.mjs): the forced cells as the released guide's own fill.sh prints them over the translation acc6975598858609… (all of the seat's roots in one cut). By AI agents, Wed Nov 11 2026. No macro, syntax, notation, axiom, sorry.
-/
import Derived.Test.YtobjifggelmhcaaChecked
import GoSem.Claim
import GoSem.ClaimJoined
import GoSem.ClaimMapViews
import Derived.JoinedTies
import Derived.KernelRfl
namespace Go.Proofs.Ytobjifggelmhcaa
/- THE CELL 'sum', in the pinned program and in every row, IS THE sha256 OF THE DUMP (.gsa) THAT YtobjifggelmhcaaProg.lean LOADS. Nothing in Lean hashes anything: it is a label: what it is worth is what the hold of that sum in a sandbox is worth. -/
noncomputable def Try.pinned : Pinned := { name := "ytobjifggelmhcaa", sum := "acc6975598858609f1f10be4fcbad04cf9999877901f96021945ad520755a158", checked := Try.checked }
namespace Rows
def none {H : Type} : Left H := { results := [], args := [] }

/-- 'laws.FnExactKeyAt': WHATEVER THE INPUT: true; the input reads as it did. -/
def fnExactKeyAtSpec : ChangeSpec := { name := "fnExactKeyAt", fn := fun _ => fun
  | [d] => { results := [.lit (.bool true)], args := [d] }
  | _ => none }
def fnExactKeyAtRow : OpenClaim := { program := "ytobjifggelmhcaa", sum := "acc6975598858609f1f10be4fcbad04cf9999877901f96021945ad520755a158", func := "loop.example/g01206/laws.FnExactKeyAt", spec := "fnExactKeyAt", apart := false }
def FnExactKeyAtSaid : Prop := fnExactKeyAtRow.holds Try.pinned (OpenSpec.ofChange fnExactKeyAtSpec)

/-- ITS FALSE NEIGHBOUR: 'it returns false'. Refute it at one input. -/
def fnExactKeyAtWrong : ChangeSpec := { name := "fnExactKeyAt", fn := fun _ => fun
  | [d] => { results := [.lit (.bool false)], args := [d] }
  | _ => none }
def FnExactKeyAtWrongFalsely : Prop := fnExactKeyAtRow.holds Try.pinned (OpenSpec.ofChange fnExactKeyAtWrong)

/-- 'laws.FnExactOrWord': WHATEVER THE INPUT: true; the input reads as it did. -/
def fnExactOrWordSpec : ChangeSpec := { name := "fnExactOrWord", fn := fun _ => fun
  | [d1, d2] => { results := [.lit (.bool true)], args := [d1, d2] }
  | _ => none }
def fnExactOrWordRow : OpenClaim := { program := "ytobjifggelmhcaa", sum := "acc6975598858609f1f10be4fcbad04cf9999877901f96021945ad520755a158", func := "loop.example/g01206/laws.FnExactOrWord", spec := "fnExactOrWord", unfollowed := true, recurses := true, apart := false }
def FnExactOrWordSaid : Prop := fnExactOrWordRow.holds Try.pinned (OpenSpec.ofChange fnExactOrWordSpec)

/-- ITS FALSE NEIGHBOUR: 'it returns false'. Refute it at one input. -/
def fnExactOrWordWrong : ChangeSpec := { name := "fnExactOrWord", fn := fun _ => fun
  | [d1, d2] => { results := [.lit (.bool false)], args := [d1, d2] }
  | _ => none }
def FnExactOrWordWrongFalsely : Prop := fnExactOrWordRow.holds Try.pinned (OpenSpec.ofChange fnExactOrWordWrong)

/-- 'laws.FnExactAndWord': WHATEVER THE INPUT: true; the input reads as it did. -/
def fnExactAndWordSpec : ChangeSpec := { name := "fnExactAndWord", fn := fun _ => fun
  | [d1, d2] => { results := [.lit (.bool true)], args := [d1, d2] }
  | _ => none }
def fnExactAndWordRow : OpenClaim := { program := "ytobjifggelmhcaa", sum := "acc6975598858609f1f10be4fcbad04cf9999877901f96021945ad520755a158", func := "loop.example/g01206/laws.FnExactAndWord", spec := "fnExactAndWord", unfollowed := true, recurses := true, apart := false }
def FnExactAndWordSaid : Prop := fnExactAndWordRow.holds Try.pinned (OpenSpec.ofChange fnExactAndWordSpec)

/-- ITS FALSE NEIGHBOUR: 'it returns false'. Refute it at one input. -/
def fnExactAndWordWrong : ChangeSpec := { name := "fnExactAndWord", fn := fun _ => fun
  | [d1, d2] => { results := [.lit (.bool false)], args := [d1, d2] }
  | _ => none }
def FnExactAndWordWrongFalsely : Prop := fnExactAndWordRow.holds Try.pinned (OpenSpec.ofChange fnExactAndWordWrong)

/-- 'laws.FnExactBuildWord': WHATEVER THE INPUT: true; the input reads as it did. -/
def fnExactBuildWordSpec : ChangeSpec := { name := "fnExactBuildWord", fn := fun _ => fun
  | [d] => { results := [.lit (.bool true)], args := [d] }
  | _ => none }
def fnExactBuildWordRow : OpenClaim := { program := "ytobjifggelmhcaa", sum := "acc6975598858609f1f10be4fcbad04cf9999877901f96021945ad520755a158", func := "loop.example/g01206/laws.FnExactBuildWord", spec := "fnExactBuildWord", unfollowed := true, recurses := true, apart := false }
def FnExactBuildWordSaid : Prop := fnExactBuildWordRow.holds Try.pinned (OpenSpec.ofChange fnExactBuildWordSpec)

/-- ITS FALSE NEIGHBOUR: 'it returns false'. Refute it at one input. -/
def fnExactBuildWordWrong : ChangeSpec := { name := "fnExactBuildWord", fn := fun _ => fun
  | [d] => { results := [.lit (.bool false)], args := [d] }
  | _ => none }
def FnExactBuildWordWrongFalsely : Prop := fnExactBuildWordRow.holds Try.pinned (OpenSpec.ofChange fnExactBuildWordWrong)

/-- 'laws.FnExactCostOf': WHATEVER THE INPUT: true; the input reads as it did. -/
def fnExactCostOfSpec : ChangeSpec := { name := "fnExactCostOf", fn := fun _ => fun
  | [d] => { results := [.lit (.bool true)], args := [d] }
  | _ => none }
def fnExactCostOfRow : OpenClaim := { program := "ytobjifggelmhcaa", sum := "acc6975598858609f1f10be4fcbad04cf9999877901f96021945ad520755a158", func := "loop.example/g01206/laws.FnExactCostOf", spec := "fnExactCostOf", unfollowed := true, recurses := true, apart := false }
def FnExactCostOfSaid : Prop := fnExactCostOfRow.holds Try.pinned (OpenSpec.ofChange fnExactCostOfSpec)

/-- ITS FALSE NEIGHBOUR: 'it returns false'. Refute it at one input. -/
def fnExactCostOfWrong : ChangeSpec := { name := "fnExactCostOf", fn := fun _ => fun
  | [d] => { results := [.lit (.bool false)], args := [d] }
  | _ => none }
def FnExactCostOfWrongFalsely : Prop := fnExactCostOfRow.holds Try.pinned (OpenSpec.ofChange fnExactCostOfWrong)

/- THE SECOND FORM. 'bulk': how many values and letters a reading holds, each counted each time it is reached (what is shared counts as often as it is met; a slice's spare places count too). A statement '..UptoSaid' is the law's where the arguments, and the package variables that the reading takes, are together of bulk at most 1048576: NARROWER than '..Said'. Prove '..Said' where nothing that the law and all that it calls make is longer than what came in: it says more and counts as full. Else prove '..UptoSaid'. A law counts once. -/
mutual
def uptoBulk {H : Type} : DataW H → Nat
  | .lit (.string bytes) => bytes.length + 1
  | .lit _ => 1
  | .nil => 1
  | .ptr d => uptoBulk d + 1
  | .slice elems spare => uptoBulkAll elems + uptoBulkAll spare + 1
  | .agg parts => uptoBulkAll parts + 1
  | .iface _ d => uptoBulk d + 1
  | .map entries => uptoBulkEntries entries + 1
  | .held _ => 1
def uptoBulkAll {H : Type} : List (DataW H) → Nat
  | [] => 0
  | d :: r => uptoBulk d + uptoBulkAll r
def uptoBulkEntries {H : Type} : List (Lit × DataW H) → Nat
  | [] => 0
  | x :: r => uptoBulkEntry x + uptoBulkEntries r
def uptoBulkEntry {H : Type} : Lit × DataW H → Nat
  | (.string bytes, d) => bytes.length + uptoBulk d + 1
  | (_, d) => uptoBulk d + 1
 end
def uptoSmall : (H : Type) → List (DataW H) → Bool := fun _ ds => decide (uptoBulkAll ds ≤ 1048576)
def OpenSpec.upto (s : _root_.Go.ChangeSpec) : _root_.Go.OpenSpec := { _root_.Go.OpenSpec.ofChange s with cond := some uptoSmall }

/-- 'laws.FnExactKeyAt', WHERE WHAT IT READS IS OF BULK AT MOST 1048576: true; the input reads as it did. -/
def fnExactKeyAtUptoRow : OpenClaim := { program := "ytobjifggelmhcaa", sum := "acc6975598858609f1f10be4fcbad04cf9999877901f96021945ad520755a158", func := "loop.example/g01206/laws.FnExactKeyAt", spec := "fnExactKeyAt", apart := false, narrowed := true }
def FnExactKeyAtUptoSaid : Prop := fnExactKeyAtUptoRow.holds Try.pinned (OpenSpec.upto fnExactKeyAtSpec)

/-- 'laws.FnExactOrWord', WHERE WHAT IT READS IS OF BULK AT MOST 1048576: true; the input reads as it did. -/
def fnExactOrWordUptoRow : OpenClaim := { program := "ytobjifggelmhcaa", sum := "acc6975598858609f1f10be4fcbad04cf9999877901f96021945ad520755a158", func := "loop.example/g01206/laws.FnExactOrWord", spec := "fnExactOrWord", unfollowed := true, recurses := true, apart := false, narrowed := true }
def FnExactOrWordUptoSaid : Prop := fnExactOrWordUptoRow.holds Try.pinned (OpenSpec.upto fnExactOrWordSpec)

/-- 'laws.FnExactAndWord', WHERE WHAT IT READS IS OF BULK AT MOST 1048576: true; the input reads as it did. -/
def fnExactAndWordUptoRow : OpenClaim := { program := "ytobjifggelmhcaa", sum := "acc6975598858609f1f10be4fcbad04cf9999877901f96021945ad520755a158", func := "loop.example/g01206/laws.FnExactAndWord", spec := "fnExactAndWord", unfollowed := true, recurses := true, apart := false, narrowed := true }
def FnExactAndWordUptoSaid : Prop := fnExactAndWordUptoRow.holds Try.pinned (OpenSpec.upto fnExactAndWordSpec)

/-- 'laws.FnExactBuildWord', WHERE WHAT IT READS IS OF BULK AT MOST 1048576: true; the input reads as it did. -/
def fnExactBuildWordUptoRow : OpenClaim := { program := "ytobjifggelmhcaa", sum := "acc6975598858609f1f10be4fcbad04cf9999877901f96021945ad520755a158", func := "loop.example/g01206/laws.FnExactBuildWord", spec := "fnExactBuildWord", unfollowed := true, recurses := true, apart := false, narrowed := true }
def FnExactBuildWordUptoSaid : Prop := fnExactBuildWordUptoRow.holds Try.pinned (OpenSpec.upto fnExactBuildWordSpec)

/-- 'laws.FnExactCostOf', WHERE WHAT IT READS IS OF BULK AT MOST 1048576: true; the input reads as it did. -/
def fnExactCostOfUptoRow : OpenClaim := { program := "ytobjifggelmhcaa", sum := "acc6975598858609f1f10be4fcbad04cf9999877901f96021945ad520755a158", func := "loop.example/g01206/laws.FnExactCostOf", spec := "fnExactCostOf", unfollowed := true, recurses := true, apart := false, narrowed := true }
def FnExactCostOfUptoSaid : Prop := fnExactCostOfUptoRow.holds Try.pinned (OpenSpec.upto fnExactCostOfSpec)

end Rows
end Go.Proofs.Ytobjifggelmhcaa
