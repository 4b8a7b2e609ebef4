/-
  NARROWER THAN 'FOR EVERY INPUT', by the rows' own cells (each row's printed sentence says how): FnExactWordsOf: laid · FnExactCountClasses: laid · FnExactCountWith: laid · FnExactFirstWith: laid · FnExactShortestLike: laid · FnExactRulesOf: laid.
  DERIVED. THE GIVEN ROWS OF THIS SEAT. 6 by the template 'for every input the law returns true; each argument reads behind the call as it read before'; 0 by the template 'total and deterministic' (their statements: YthamckchfhddjaaDoorTotals.lean).
  GIVEN WITH THE SEED: the statements are not yours to turn. If you find one false, say at which input.
  Laid BY PROGRAM, IN A SANDBOX (cutbox-rows.mjs): the forced cells as the released guide's own fill.sh prints them over the translation b6ed8398aa0619f2… (all of the seat's roots in one cut). By AI agents, Wed Nov 11 2026. No macro, syntax, notation, axiom, sorry.
-/
import Derived.Test.YthamckchfhddjaaDoorChecked
import GoSem.Claim
import GoSem.ClaimJoined
import GoSem.ClaimMapViews
import Derived.JoinedTies
import Derived.KernelRfl
namespace Go.Proofs.YthamckchfhddjaaDoor
/- THE CELL 'sum', in the pinned program and in every row, IS THE sha256 OF THE DUMP (.gsa) THAT YthamckchfhddjaaDoorProg.lean LOADS. Nothing in Lean hashes anything: it is a label: what it is worth is what the hold of that sum in a sandbox is worth. -/
noncomputable def Tryd.pinned : Pinned := { name := "ythamckchfhddjaadoor", sum := "b6ed8398aa0619f2d648cc8576091b3d5aca5668e3483a8af9246f9a879d4e08", checked := Tryd.checked }
namespace Rows
def none {H : Type} : Left H := { results := [], args := [] }

/- WHAT THE LISTED PACKAGE-LEVEL VARIABLES READ AS WHEN THE CALL BEGINS. Each datum BY PROGRAM (the guide's laid-datum.mjs) off the statement by which the dump's own 'gosem.cut.vars' lays the variable. In a bare row this is a premise. The card (YthamckchfhddjaaDoorCards.lean) ties it to the program's text. -/
def laid_loop_example_g01206_impl_longestListed {H : Type} : DataW H := .agg [.lit (.int .i64 0), .lit (.int .i64 8), .lit (.int .i64 8), .lit (.int .i64 5)]

/-- 'laws.FnExactWordsOf': WHATEVER THE INPUT: true; the input reads as it did. -/
def fnExactWordsOfSpec : ChangeSpec := { name := "fnExactWordsOf", vars := ["loop.example/g01206/impl.longestListed"], fn := fun _ => fun
  | [d1, d2, g1] => { results := [.lit (.bool true)], args := [d1, d2], vars := [g1] }
  | _ => none }
def fnExactWordsOfRow : OpenClaim := { program := "ythamckchfhddjaadoor", sum := "b6ed8398aa0619f2d648cc8576091b3d5aca5668e3483a8af9246f9a879d4e08", func := "loop.example/g01206/laws.FnExactWordsOf", spec := "fnExactWordsOf", named := ["loop.example/g01206/impl.longestListed"], plainKeys := false, apart := false, laid := [("loop.example/g01206/impl.longestListed", laid_loop_example_g01206_impl_longestListed)] }
def FnExactWordsOfSaid : Prop := fnExactWordsOfRow.holds Tryd.pinned (OpenSpec.ofChange fnExactWordsOfSpec)

/-- ITS FALSE NEIGHBOUR: 'it returns false'. Refute it at one input. -/
def fnExactWordsOfWrong : ChangeSpec := { name := "fnExactWordsOf", vars := ["loop.example/g01206/impl.longestListed"], fn := fun _ => fun
  | [d1, d2, g1] => { results := [.lit (.bool false)], args := [d1, d2], vars := [g1] }
  | _ => none }
def FnExactWordsOfWrongFalsely : Prop := fnExactWordsOfRow.holds Tryd.pinned (OpenSpec.ofChange fnExactWordsOfWrong)

/-- 'laws.FnExactCountClasses': WHATEVER THE INPUT: true; the input reads as it did. -/
def fnExactCountClassesSpec : ChangeSpec := { name := "fnExactCountClasses", vars := ["loop.example/g01206/impl.longestListed"], fn := fun _ => fun
  | [d1, d2, g1] => { results := [.lit (.bool true)], args := [d1, d2], vars := [g1] }
  | _ => none }
def fnExactCountClassesRow : OpenClaim := { program := "ythamckchfhddjaadoor", sum := "b6ed8398aa0619f2d648cc8576091b3d5aca5668e3483a8af9246f9a879d4e08", func := "loop.example/g01206/laws.FnExactCountClasses", spec := "fnExactCountClasses", unfollowed := true, recurses := true, named := ["loop.example/g01206/impl.longestListed"], plainKeys := false, apart := false, laid := [("loop.example/g01206/impl.longestListed", laid_loop_example_g01206_impl_longestListed)] }
def FnExactCountClassesSaid : Prop := fnExactCountClassesRow.holds Tryd.pinned (OpenSpec.ofChange fnExactCountClassesSpec)

/-- ITS FALSE NEIGHBOUR: 'it returns false'. Refute it at one input. -/
def fnExactCountClassesWrong : ChangeSpec := { name := "fnExactCountClasses", vars := ["loop.example/g01206/impl.longestListed"], fn := fun _ => fun
  | [d1, d2, g1] => { results := [.lit (.bool false)], args := [d1, d2], vars := [g1] }
  | _ => none }
def FnExactCountClassesWrongFalsely : Prop := fnExactCountClassesRow.holds Tryd.pinned (OpenSpec.ofChange fnExactCountClassesWrong)

/-- 'laws.FnExactCountWith': WHATEVER THE INPUT: true; the input reads as it did. -/
def fnExactCountWithSpec : ChangeSpec := { name := "fnExactCountWith", vars := ["loop.example/g01206/impl.longestListed"], fn := fun _ => fun
  | [d1, d2, d3, g1] => { results := [.lit (.bool true)], args := [d1, d2, d3], vars := [g1] }
  | _ => none }
def fnExactCountWithRow : OpenClaim := { program := "ythamckchfhddjaadoor", sum := "b6ed8398aa0619f2d648cc8576091b3d5aca5668e3483a8af9246f9a879d4e08", func := "loop.example/g01206/laws.FnExactCountWith", spec := "fnExactCountWith", unfollowed := true, recurses := true, named := ["loop.example/g01206/impl.longestListed"], plainKeys := false, apart := false, laid := [("loop.example/g01206/impl.longestListed", laid_loop_example_g01206_impl_longestListed)] }
def FnExactCountWithSaid : Prop := fnExactCountWithRow.holds Tryd.pinned (OpenSpec.ofChange fnExactCountWithSpec)

/-- ITS FALSE NEIGHBOUR: 'it returns false'. Refute it at one input. -/
def fnExactCountWithWrong : ChangeSpec := { name := "fnExactCountWith", vars := ["loop.example/g01206/impl.longestListed"], fn := fun _ => fun
  | [d1, d2, d3, g1] => { results := [.lit (.bool false)], args := [d1, d2, d3], vars := [g1] }
  | _ => none }
def FnExactCountWithWrongFalsely : Prop := fnExactCountWithRow.holds Tryd.pinned (OpenSpec.ofChange fnExactCountWithWrong)

/-- 'laws.FnExactFirstWith': WHATEVER THE INPUT: true; the input reads as it did. -/
def fnExactFirstWithSpec : ChangeSpec := { name := "fnExactFirstWith", vars := ["loop.example/g01206/impl.longestListed"], fn := fun _ => fun
  | [d1, d2, g1] => { results := [.lit (.bool true)], args := [d1, d2], vars := [g1] }
  | _ => none }
def fnExactFirstWithRow : OpenClaim := { program := "ythamckchfhddjaadoor", sum := "b6ed8398aa0619f2d648cc8576091b3d5aca5668e3483a8af9246f9a879d4e08", func := "loop.example/g01206/laws.FnExactFirstWith", spec := "fnExactFirstWith", unfollowed := true, recurses := true, named := ["loop.example/g01206/impl.longestListed"], plainKeys := false, apart := false, laid := [("loop.example/g01206/impl.longestListed", laid_loop_example_g01206_impl_longestListed)] }
def FnExactFirstWithSaid : Prop := fnExactFirstWithRow.holds Tryd.pinned (OpenSpec.ofChange fnExactFirstWithSpec)

/-- ITS FALSE NEIGHBOUR: 'it returns false'. Refute it at one input. -/
def fnExactFirstWithWrong : ChangeSpec := { name := "fnExactFirstWith", vars := ["loop.example/g01206/impl.longestListed"], fn := fun _ => fun
  | [d1, d2, g1] => { results := [.lit (.bool false)], args := [d1, d2], vars := [g1] }
  | _ => none }
def FnExactFirstWithWrongFalsely : Prop := fnExactFirstWithRow.holds Tryd.pinned (OpenSpec.ofChange fnExactFirstWithWrong)

/-- 'laws.FnExactShortestLike': WHATEVER THE INPUT: true; the input reads as it did. -/
def fnExactShortestLikeSpec : ChangeSpec := { name := "fnExactShortestLike", vars := ["loop.example/g01206/impl.longestListed"], fn := fun _ => fun
  | [d1, d2, g1] => { results := [.lit (.bool true)], args := [d1, d2], vars := [g1] }
  | _ => none }
def fnExactShortestLikeRow : OpenClaim := { program := "ythamckchfhddjaadoor", sum := "b6ed8398aa0619f2d648cc8576091b3d5aca5668e3483a8af9246f9a879d4e08", func := "loop.example/g01206/laws.FnExactShortestLike", spec := "fnExactShortestLike", unfollowed := true, recurses := true, named := ["loop.example/g01206/impl.longestListed"], plainKeys := false, apart := false, laid := [("loop.example/g01206/impl.longestListed", laid_loop_example_g01206_impl_longestListed)] }
def FnExactShortestLikeSaid : Prop := fnExactShortestLikeRow.holds Tryd.pinned (OpenSpec.ofChange fnExactShortestLikeSpec)

/-- ITS FALSE NEIGHBOUR: 'it returns false'. Refute it at one input. -/
def fnExactShortestLikeWrong : ChangeSpec := { name := "fnExactShortestLike", vars := ["loop.example/g01206/impl.longestListed"], fn := fun _ => fun
  | [d1, d2, g1] => { results := [.lit (.bool false)], args := [d1, d2], vars := [g1] }
  | _ => none }
def FnExactShortestLikeWrongFalsely : Prop := fnExactShortestLikeRow.holds Tryd.pinned (OpenSpec.ofChange fnExactShortestLikeWrong)

/-- 'laws.FnExactRulesOf': WHATEVER THE INPUT: true; the input reads as it did. -/
def fnExactRulesOfSpec : ChangeSpec := { name := "fnExactRulesOf", vars := ["loop.example/g01206/impl.longestListed"], fn := fun _ => fun
  | [d1, d2, g1] => { results := [.lit (.bool true)], args := [d1, d2], vars := [g1] }
  | _ => none }
def fnExactRulesOfRow : OpenClaim := { program := "ythamckchfhddjaadoor", sum := "b6ed8398aa0619f2d648cc8576091b3d5aca5668e3483a8af9246f9a879d4e08", func := "loop.example/g01206/laws.FnExactRulesOf", spec := "fnExactRulesOf", unfollowed := true, recurses := true, named := ["loop.example/g01206/impl.longestListed"], plainKeys := false, apart := false, laid := [("loop.example/g01206/impl.longestListed", laid_loop_example_g01206_impl_longestListed)] }
def FnExactRulesOfSaid : Prop := fnExactRulesOfRow.holds Tryd.pinned (OpenSpec.ofChange fnExactRulesOfSpec)

/-- ITS FALSE NEIGHBOUR: 'it returns false'. Refute it at one input. -/
def fnExactRulesOfWrong : ChangeSpec := { name := "fnExactRulesOf", vars := ["loop.example/g01206/impl.longestListed"], fn := fun _ => fun
  | [d1, d2, g1] => { results := [.lit (.bool false)], args := [d1, d2], vars := [g1] }
  | _ => none }
def FnExactRulesOfWrongFalsely : Prop := fnExactRulesOfRow.holds Tryd.pinned (OpenSpec.ofChange fnExactRulesOfWrong)

/- THE SECOND FORM. 'bulk': how many values and letters a reading holds, each counted each time it is reached (what is shared counts as often as it is met; a slice's spare places count too). A statement '..UptoSaid' is the law's where the arguments, and the package variables that the reading takes, are together of bulk at most 1048576: NARROWER than '..Said'. Prove '..Said' where nothing that the law and all that it calls make is longer than what came in: it says more and counts as full. Else prove '..UptoSaid'. A law counts once. -/
mutual
def uptoBulk {H : Type} : DataW H → Nat
  | .lit (.string bytes) => bytes.length + 1
  | .lit _ => 1
  | .nil => 1
  | .ptr d => uptoBulk d + 1
  | .slice elems spare => uptoBulkAll elems + uptoBulkAll spare + 1
  | .agg parts => uptoBulkAll parts + 1
  | .iface _ d => uptoBulk d + 1
  | .map entries => uptoBulkEntries entries + 1
  | .held _ => 1
def uptoBulkAll {H : Type} : List (DataW H) → Nat
  | [] => 0
  | d :: r => uptoBulk d + uptoBulkAll r
def uptoBulkEntries {H : Type} : List (Lit × DataW H) → Nat
  | [] => 0
  | x :: r => uptoBulkEntry x + uptoBulkEntries r
def uptoBulkEntry {H : Type} : Lit × DataW H → Nat
  | (.string bytes, d) => bytes.length + uptoBulk d + 1
  | (_, d) => uptoBulk d + 1
 end
def uptoSmall : (H : Type) → List (DataW H) → Bool := fun _ ds => decide (uptoBulkAll ds ≤ 1048576)
def OpenSpec.upto (s : _root_.Go.ChangeSpec) : _root_.Go.OpenSpec := { _root_.Go.OpenSpec.ofChange s with cond := some uptoSmall }

/-- 'laws.FnExactWordsOf', WHERE WHAT IT READS IS OF BULK AT MOST 1048576: true; the input reads as it did. -/
def fnExactWordsOfUptoRow : OpenClaim := { program := "ythamckchfhddjaadoor", sum := "b6ed8398aa0619f2d648cc8576091b3d5aca5668e3483a8af9246f9a879d4e08", func := "loop.example/g01206/laws.FnExactWordsOf", spec := "fnExactWordsOf", named := ["loop.example/g01206/impl.longestListed"], plainKeys := false, apart := false, laid := [("loop.example/g01206/impl.longestListed", laid_loop_example_g01206_impl_longestListed)], narrowed := true }
def FnExactWordsOfUptoSaid : Prop := fnExactWordsOfUptoRow.holds Tryd.pinned (OpenSpec.upto fnExactWordsOfSpec)

/-- 'laws.FnExactCountClasses', WHERE WHAT IT READS IS OF BULK AT MOST 1048576: true; the input reads as it did. -/
def fnExactCountClassesUptoRow : OpenClaim := { program := "ythamckchfhddjaadoor", sum := "b6ed8398aa0619f2d648cc8576091b3d5aca5668e3483a8af9246f9a879d4e08", func := "loop.example/g01206/laws.FnExactCountClasses", spec := "fnExactCountClasses", unfollowed := true, recurses := true, named := ["loop.example/g01206/impl.longestListed"], plainKeys := false, apart := false, laid := [("loop.example/g01206/impl.longestListed", laid_loop_example_g01206_impl_longestListed)], narrowed := true }
def FnExactCountClassesUptoSaid : Prop := fnExactCountClassesUptoRow.holds Tryd.pinned (OpenSpec.upto fnExactCountClassesSpec)

/-- 'laws.FnExactCountWith', WHERE WHAT IT READS IS OF BULK AT MOST 1048576: true; the input reads as it did. -/
def fnExactCountWithUptoRow : OpenClaim := { program := "ythamckchfhddjaadoor", sum := "b6ed8398aa0619f2d648cc8576091b3d5aca5668e3483a8af9246f9a879d4e08", func := "loop.example/g01206/laws.FnExactCountWith", spec := "fnExactCountWith", unfollowed := true, recurses := true, named := ["loop.example/g01206/impl.longestListed"], plainKeys := false, apart := false, laid := [("loop.example/g01206/impl.longestListed", laid_loop_example_g01206_impl_longestListed)], narrowed := true }
def FnExactCountWithUptoSaid : Prop := fnExactCountWithUptoRow.holds Tryd.pinned (OpenSpec.upto fnExactCountWithSpec)

/-- 'laws.FnExactFirstWith', WHERE WHAT IT READS IS OF BULK AT MOST 1048576: true; the input reads as it did. -/
def fnExactFirstWithUptoRow : OpenClaim := { program := "ythamckchfhddjaadoor", sum := "b6ed8398aa0619f2d648cc8576091b3d5aca5668e3483a8af9246f9a879d4e08", func := "loop.example/g01206/laws.FnExactFirstWith", spec := "fnExactFirstWith", unfollowed := true, recurses := true, named := ["loop.example/g01206/impl.longestListed"], plainKeys := false, apart := false, laid := [("loop.example/g01206/impl.longestListed", laid_loop_example_g01206_impl_longestListed)], narrowed := true }
def FnExactFirstWithUptoSaid : Prop := fnExactFirstWithUptoRow.holds Tryd.pinned (OpenSpec.upto fnExactFirstWithSpec)

/-- 'laws.FnExactShortestLike', WHERE WHAT IT READS IS OF BULK AT MOST 1048576: true; the input reads as it did. -/
def fnExactShortestLikeUptoRow : OpenClaim := { program := "ythamckchfhddjaadoor", sum := "b6ed8398aa0619f2d648cc8576091b3d5aca5668e3483a8af9246f9a879d4e08", func := "loop.example/g01206/laws.FnExactShortestLike", spec := "fnExactShortestLike", unfollowed := true, recurses := true, named := ["loop.example/g01206/impl.longestListed"], plainKeys := false, apart := false, laid := [("loop.example/g01206/impl.longestListed", laid_loop_example_g01206_impl_longestListed)], narrowed := true }
def FnExactShortestLikeUptoSaid : Prop := fnExactShortestLikeUptoRow.holds Tryd.pinned (OpenSpec.upto fnExactShortestLikeSpec)

/-- 'laws.FnExactRulesOf', WHERE WHAT IT READS IS OF BULK AT MOST 1048576: true; the input reads as it did. -/
def fnExactRulesOfUptoRow : OpenClaim := { program := "ythamckchfhddjaadoor", sum := "b6ed8398aa0619f2d648cc8576091b3d5aca5668e3483a8af9246f9a879d4e08", func := "loop.example/g01206/laws.FnExactRulesOf", spec := "fnExactRulesOf", unfollowed := true, recurses := true, named := ["loop.example/g01206/impl.longestListed"], plainKeys := false, apart := false, laid := [("loop.example/g01206/impl.longestListed", laid_loop_example_g01206_impl_longestListed)], narrowed := true }
def FnExactRulesOfUptoSaid : Prop := fnExactRulesOfUptoRow.holds Tryd.pinned (OpenSpec.upto fnExactRulesOfSpec)

end Rows
end Go.Proofs.YthamckchfhddjaaDoor
