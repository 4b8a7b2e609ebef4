/-
  No cell of these rows narrows 'for every input' (looked for: loops, veiled, ifaces, maps, wideKeys, modest, calm, conditions, laid).
  DERIVED. THE GIVEN ROWS OF THIS SEAT. 2 by the template 'for every input the law returns true; each argument reads behind the call as it read before'; 0 by the template 'total and deterministic' (their statements: YtobjifggelmhcaaGreatTotals.lean).
  GIVEN WITH THE SEED: the statements are not yours to turn. If you find one false, say at which input.
  Laid BY PROGRAM, IN A SANDBOX (cutbox-rows.mjs): the forced cells as the released guide's own fill.sh prints them over the translation 96c4513693f17c9b… (all of the seat's roots in one cut). By AI agents, Wed Nov 11 2026. No macro, syntax, notation, axiom, sorry.
-/
import Derived.Test.YtobjifggelmhcaaGreatChecked
import GoSem.Claim
import GoSem.ClaimJoined
import GoSem.ClaimMapViews
import Derived.JoinedTies
import Derived.KernelRfl
namespace Go.Proofs.YtobjifggelmhcaaGreat
/- THE CELL 'sum', in the pinned program and in every row, IS THE sha256 OF THE DUMP (.gsa) THAT YtobjifggelmhcaaGreatProg.lean LOADS. Nothing in Lean hashes anything: it is a label: what it is worth is what the hold of that sum in a sandbox is worth. -/
noncomputable def Tryz.pinned : Pinned := { name := "ytobjifggelmhcaagreat", sum := "96c4513693f17c9b73db32ec56697d3372b1742568533a284f694794c27ff6b5", checked := Tryz.checked }
namespace Rows
def none {H : Type} : Left H := { results := [], args := [] }

/-- 'laws.FnExactBuildHalves': WHATEVER THE INPUT: true; the input reads as it did. -/
def fnExactBuildHalvesSpec : ChangeSpec := { name := "fnExactBuildHalves", fn := fun _ => fun
  | [d] => { results := [.lit (.bool true)], args := [d] }
  | _ => none }
def fnExactBuildHalvesRow : OpenClaim := { program := "ytobjifggelmhcaagreat", sum := "96c4513693f17c9b73db32ec56697d3372b1742568533a284f694794c27ff6b5", func := "loop.example/g01206/laws.FnExactBuildHalves", spec := "fnExactBuildHalves", unfollowed := true, recurses := true, apart := false }
def FnExactBuildHalvesSaid : Prop := fnExactBuildHalvesRow.holds Tryz.pinned (OpenSpec.ofChange fnExactBuildHalvesSpec)

/-- ITS FALSE NEIGHBOUR: 'it returns false'. Refute it at one input. -/
def fnExactBuildHalvesWrong : ChangeSpec := { name := "fnExactBuildHalves", fn := fun _ => fun
  | [d] => { results := [.lit (.bool false)], args := [d] }
  | _ => none }
def FnExactBuildHalvesWrongFalsely : Prop := fnExactBuildHalvesRow.holds Tryz.pinned (OpenSpec.ofChange fnExactBuildHalvesWrong)

/-- 'laws.FnExactBuildShort': WHATEVER THE INPUT: true; the input reads as it did. -/
def fnExactBuildShortSpec : ChangeSpec := { name := "fnExactBuildShort", fn := fun _ => fun
  | [d] => { results := [.lit (.bool true)], args := [d] }
  | _ => none }
def fnExactBuildShortRow : OpenClaim := { program := "ytobjifggelmhcaagreat", sum := "96c4513693f17c9b73db32ec56697d3372b1742568533a284f694794c27ff6b5", func := "loop.example/g01206/laws.FnExactBuildShort", spec := "fnExactBuildShort", unfollowed := true, recurses := true, apart := false }
def FnExactBuildShortSaid : Prop := fnExactBuildShortRow.holds Tryz.pinned (OpenSpec.ofChange fnExactBuildShortSpec)

/-- ITS FALSE NEIGHBOUR: 'it returns false'. Refute it at one input. -/
def fnExactBuildShortWrong : ChangeSpec := { name := "fnExactBuildShort", fn := fun _ => fun
  | [d] => { results := [.lit (.bool false)], args := [d] }
  | _ => none }
def FnExactBuildShortWrongFalsely : Prop := fnExactBuildShortRow.holds Tryz.pinned (OpenSpec.ofChange fnExactBuildShortWrong)

/- THE SECOND FORM. 'bulk': how many values and letters a reading holds, each counted each time it is reached (what is shared counts as often as it is met; a slice's spare places count too). A statement '..UptoSaid' is the law's where the arguments, and the package variables that the reading takes, are together of bulk at most 1048576: NARROWER than '..Said'. Prove '..Said' where nothing that the law and all that it calls make is longer than what came in: it says more and counts as full. Else prove '..UptoSaid'. A law counts once. -/
mutual
def uptoBulk {H : Type} : DataW H → Nat
  | .lit (.string bytes) => bytes.length + 1
  | .lit _ => 1
  | .nil => 1
  | .ptr d => uptoBulk d + 1
  | .slice elems spare => uptoBulkAll elems + uptoBulkAll spare + 1
  | .agg parts => uptoBulkAll parts + 1
  | .iface _ d => uptoBulk d + 1
  | .map entries => uptoBulkEntries entries + 1
  | .held _ => 1
def uptoBulkAll {H : Type} : List (DataW H) → Nat
  | [] => 0
  | d :: r => uptoBulk d + uptoBulkAll r
def uptoBulkEntries {H : Type} : List (Lit × DataW H) → Nat
  | [] => 0
  | x :: r => uptoBulkEntry x + uptoBulkEntries r
def uptoBulkEntry {H : Type} : Lit × DataW H → Nat
  | (.string bytes, d) => bytes.length + uptoBulk d + 1
  | (_, d) => uptoBulk d + 1
 end
def uptoSmall : (H : Type) → List (DataW H) → Bool := fun _ ds => decide (uptoBulkAll ds ≤ 1048576)
def OpenSpec.upto (s : _root_.Go.ChangeSpec) : _root_.Go.OpenSpec := { _root_.Go.OpenSpec.ofChange s with cond := some uptoSmall }

/-- 'laws.FnExactBuildHalves', WHERE WHAT IT READS IS OF BULK AT MOST 1048576: true; the input reads as it did. -/
def fnExactBuildHalvesUptoRow : OpenClaim := { program := "ytobjifggelmhcaagreat", sum := "96c4513693f17c9b73db32ec56697d3372b1742568533a284f694794c27ff6b5", func := "loop.example/g01206/laws.FnExactBuildHalves", spec := "fnExactBuildHalves", unfollowed := true, recurses := true, apart := false, narrowed := true }
def FnExactBuildHalvesUptoSaid : Prop := fnExactBuildHalvesUptoRow.holds Tryz.pinned (OpenSpec.upto fnExactBuildHalvesSpec)

/-- 'laws.FnExactBuildShort', WHERE WHAT IT READS IS OF BULK AT MOST 1048576: true; the input reads as it did. -/
def fnExactBuildShortUptoRow : OpenClaim := { program := "ytobjifggelmhcaagreat", sum := "96c4513693f17c9b73db32ec56697d3372b1742568533a284f694794c27ff6b5", func := "loop.example/g01206/laws.FnExactBuildShort", spec := "fnExactBuildShort", unfollowed := true, recurses := true, apart := false, narrowed := true }
def FnExactBuildShortUptoSaid : Prop := fnExactBuildShortUptoRow.holds Tryz.pinned (OpenSpec.upto fnExactBuildShortSpec)

end Rows
end Go.Proofs.YtobjifggelmhcaaGreat
