/-
  No cell of these rows narrows 'for every input' (looked for: loops, veiled, ifaces, maps, wideKeys, modest, calm, conditions, laid).
  DERIVED. THE GIVEN ROWS OF THIS SEAT. 4 by the template 'for every input the law returns true; each argument reads behind the call as it read before'; 0 by the template 'total and deterministic' (their statements: YtfikbjfgieiifaaTotals.lean).
  GIVEN WITH THE SEED: the statements are not yours to turn. If you find one false, say at which input.
  Laid BY PROGRAM, IN A SANDBOX (cutbox-rows.mjs): the forced cells as the released guide's own fill.sh prints them over the translation 3afdc1ac2e105683… (all of the seat's roots in one cut). By AI agents, Wed Nov 11 2026. No macro, syntax, notation, axiom, sorry.
-/
import Derived.Test.YtfikbjfgieiifaaChecked
import GoSem.Claim
import GoSem.ClaimJoined
import GoSem.ClaimMapViews
import Derived.JoinedTies
import Derived.KernelRfl
namespace Go.Proofs.Ytfikbjfgieiifaa
/- THE CELL 'sum', in the pinned program and in every row, IS THE sha256 OF THE DUMP (.gsa) THAT YtfikbjfgieiifaaProg.lean LOADS. Nothing in Lean hashes anything: it is a label: what it is worth is what the hold of that sum in a sandbox is worth. -/
noncomputable def Try.pinned : Pinned := { name := "ytfikbjfgieiifaa", sum := "3afdc1ac2e10568337be2e6169f4fe4279a4667d22aab23640efbcc61c7847c3", checked := Try.checked }
namespace Rows
def none {H : Type} : Left H := { results := [], args := [] }

/-- 'laws.FnExactAndFamily': WHATEVER THE INPUT: true; the input reads as it did. -/
def fnExactAndFamilySpec : ChangeSpec := { name := "fnExactAndFamily", fn := fun _ => fun
  | [d1, d2] => { results := [.lit (.bool true)], args := [d1, d2] }
  | _ => none }
def fnExactAndFamilyRow : OpenClaim := { program := "ytfikbjfgieiifaa", sum := "3afdc1ac2e10568337be2e6169f4fe4279a4667d22aab23640efbcc61c7847c3", func := "loop.example/g01206/laws.FnExactAndFamily", spec := "fnExactAndFamily", unfollowed := true, recurses := true, apart := false }
def FnExactAndFamilySaid : Prop := fnExactAndFamilyRow.holds Try.pinned (OpenSpec.ofChange fnExactAndFamilySpec)

/-- ITS FALSE NEIGHBOUR: 'it returns false'. Refute it at one input. -/
def fnExactAndFamilyWrong : ChangeSpec := { name := "fnExactAndFamily", fn := fun _ => fun
  | [d1, d2] => { results := [.lit (.bool false)], args := [d1, d2] }
  | _ => none }
def FnExactAndFamilyWrongFalsely : Prop := fnExactAndFamilyRow.holds Try.pinned (OpenSpec.ofChange fnExactAndFamilyWrong)

/-- 'laws.FnExactOrFamily': WHATEVER THE INPUT: true; the input reads as it did. -/
def fnExactOrFamilySpec : ChangeSpec := { name := "fnExactOrFamily", fn := fun _ => fun
  | [d1, d2] => { results := [.lit (.bool true)], args := [d1, d2] }
  | _ => none }
def fnExactOrFamilyRow : OpenClaim := { program := "ytfikbjfgieiifaa", sum := "3afdc1ac2e10568337be2e6169f4fe4279a4667d22aab23640efbcc61c7847c3", func := "loop.example/g01206/laws.FnExactOrFamily", spec := "fnExactOrFamily", unfollowed := true, recurses := true, apart := false }
def FnExactOrFamilySaid : Prop := fnExactOrFamilyRow.holds Try.pinned (OpenSpec.ofChange fnExactOrFamilySpec)

/-- ITS FALSE NEIGHBOUR: 'it returns false'. Refute it at one input. -/
def fnExactOrFamilyWrong : ChangeSpec := { name := "fnExactOrFamily", fn := fun _ => fun
  | [d1, d2] => { results := [.lit (.bool false)], args := [d1, d2] }
  | _ => none }
def FnExactOrFamilyWrongFalsely : Prop := fnExactOrFamilyRow.holds Try.pinned (OpenSpec.ofChange fnExactOrFamilyWrong)

/-- 'laws.FnExactWeightFamily': WHATEVER THE INPUT: true; the input reads as it did. -/
def fnExactWeightFamilySpec : ChangeSpec := { name := "fnExactWeightFamily", fn := fun _ => fun
  | [d1, d2] => { results := [.lit (.bool true)], args := [d1, d2] }
  | _ => none }
def fnExactWeightFamilyRow : OpenClaim := { program := "ytfikbjfgieiifaa", sum := "3afdc1ac2e10568337be2e6169f4fe4279a4667d22aab23640efbcc61c7847c3", func := "loop.example/g01206/laws.FnExactWeightFamily", spec := "fnExactWeightFamily", unfollowed := true, recurses := true, apart := false }
def FnExactWeightFamilySaid : Prop := fnExactWeightFamilyRow.holds Try.pinned (OpenSpec.ofChange fnExactWeightFamilySpec)

/-- ITS FALSE NEIGHBOUR: 'it returns false'. Refute it at one input. -/
def fnExactWeightFamilyWrong : ChangeSpec := { name := "fnExactWeightFamily", fn := fun _ => fun
  | [d1, d2] => { results := [.lit (.bool false)], args := [d1, d2] }
  | _ => none }
def FnExactWeightFamilyWrongFalsely : Prop := fnExactWeightFamilyRow.holds Try.pinned (OpenSpec.ofChange fnExactWeightFamilyWrong)

/-- 'laws.FnExactCountFamilies': WHATEVER THE INPUT: true; the input reads as it did. -/
def fnExactCountFamiliesSpec : ChangeSpec := { name := "fnExactCountFamilies", fn := fun _ => fun
  | [d] => { results := [.lit (.bool true)], args := [d] }
  | _ => none }
def fnExactCountFamiliesRow : OpenClaim := { program := "ytfikbjfgieiifaa", sum := "3afdc1ac2e10568337be2e6169f4fe4279a4667d22aab23640efbcc61c7847c3", func := "loop.example/g01206/laws.FnExactCountFamilies", spec := "fnExactCountFamilies", apart := false }
def FnExactCountFamiliesSaid : Prop := fnExactCountFamiliesRow.holds Try.pinned (OpenSpec.ofChange fnExactCountFamiliesSpec)

/-- ITS FALSE NEIGHBOUR: 'it returns false'. Refute it at one input. -/
def fnExactCountFamiliesWrong : ChangeSpec := { name := "fnExactCountFamilies", fn := fun _ => fun
  | [d] => { results := [.lit (.bool false)], args := [d] }
  | _ => none }
def FnExactCountFamiliesWrongFalsely : Prop := fnExactCountFamiliesRow.holds Try.pinned (OpenSpec.ofChange fnExactCountFamiliesWrong)

/- THE SECOND FORM. 'bulk': how many values and letters a reading holds, each counted each time it is reached (what is shared counts as often as it is met; a slice's spare places count too). A statement '..UptoSaid' is the law's where the arguments, and the package variables that the reading takes, are together of bulk at most 1048576: NARROWER than '..Said'. Prove '..Said' where nothing that the law and all that it calls make is longer than what came in: it says more and counts as full. Else prove '..UptoSaid'. A law counts once. -/
mutual
def uptoBulk {H : Type} : DataW H → Nat
  | .lit (.string bytes) => bytes.length + 1
  | .lit _ => 1
  | .nil => 1
  | .ptr d => uptoBulk d + 1
  | .slice elems spare => uptoBulkAll elems + uptoBulkAll spare + 1
  | .agg parts => uptoBulkAll parts + 1
  | .iface _ d => uptoBulk d + 1
  | .map entries => uptoBulkEntries entries + 1
  | .held _ => 1
def uptoBulkAll {H : Type} : List (DataW H) → Nat
  | [] => 0
  | d :: r => uptoBulk d + uptoBulkAll r
def uptoBulkEntries {H : Type} : List (Lit × DataW H) → Nat
  | [] => 0
  | x :: r => uptoBulkEntry x + uptoBulkEntries r
def uptoBulkEntry {H : Type} : Lit × DataW H → Nat
  | (.string bytes, d) => bytes.length + uptoBulk d + 1
  | (_, d) => uptoBulk d + 1
 end
def uptoSmall : (H : Type) → List (DataW H) → Bool := fun _ ds => decide (uptoBulkAll ds ≤ 1048576)
def OpenSpec.upto (s : _root_.Go.ChangeSpec) : _root_.Go.OpenSpec := { _root_.Go.OpenSpec.ofChange s with cond := some uptoSmall }

/-- 'laws.FnExactAndFamily', WHERE WHAT IT READS IS OF BULK AT MOST 1048576: true; the input reads as it did. -/
def fnExactAndFamilyUptoRow : OpenClaim := { program := "ytfikbjfgieiifaa", sum := "3afdc1ac2e10568337be2e6169f4fe4279a4667d22aab23640efbcc61c7847c3", func := "loop.example/g01206/laws.FnExactAndFamily", spec := "fnExactAndFamily", unfollowed := true, recurses := true, apart := false, narrowed := true }
def FnExactAndFamilyUptoSaid : Prop := fnExactAndFamilyUptoRow.holds Try.pinned (OpenSpec.upto fnExactAndFamilySpec)

/-- 'laws.FnExactOrFamily', WHERE WHAT IT READS IS OF BULK AT MOST 1048576: true; the input reads as it did. -/
def fnExactOrFamilyUptoRow : OpenClaim := { program := "ytfikbjfgieiifaa", sum := "3afdc1ac2e10568337be2e6169f4fe4279a4667d22aab23640efbcc61c7847c3", func := "loop.example/g01206/laws.FnExactOrFamily", spec := "fnExactOrFamily", unfollowed := true, recurses := true, apart := false, narrowed := true }
def FnExactOrFamilyUptoSaid : Prop := fnExactOrFamilyUptoRow.holds Try.pinned (OpenSpec.upto fnExactOrFamilySpec)

/-- 'laws.FnExactWeightFamily', WHERE WHAT IT READS IS OF BULK AT MOST 1048576: true; the input reads as it did. -/
def fnExactWeightFamilyUptoRow : OpenClaim := { program := "ytfikbjfgieiifaa", sum := "3afdc1ac2e10568337be2e6169f4fe4279a4667d22aab23640efbcc61c7847c3", func := "loop.example/g01206/laws.FnExactWeightFamily", spec := "fnExactWeightFamily", unfollowed := true, recurses := true, apart := false, narrowed := true }
def FnExactWeightFamilyUptoSaid : Prop := fnExactWeightFamilyUptoRow.holds Try.pinned (OpenSpec.upto fnExactWeightFamilySpec)

/-- 'laws.FnExactCountFamilies', WHERE WHAT IT READS IS OF BULK AT MOST 1048576: true; the input reads as it did. -/
def fnExactCountFamiliesUptoRow : OpenClaim := { program := "ytfikbjfgieiifaa", sum := "3afdc1ac2e10568337be2e6169f4fe4279a4667d22aab23640efbcc61c7847c3", func := "loop.example/g01206/laws.FnExactCountFamilies", spec := "fnExactCountFamilies", apart := false, narrowed := true }
def FnExactCountFamiliesUptoSaid : Prop := fnExactCountFamiliesUptoRow.holds Try.pinned (OpenSpec.upto fnExactCountFamiliesSpec)

end Rows
end Go.Proofs.Ytfikbjfgieiifaa
