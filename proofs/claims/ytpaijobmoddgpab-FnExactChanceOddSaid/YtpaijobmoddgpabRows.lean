/-
  No cell of these rows narrows 'for every input' (looked for: loops, veiled, ifaces, maps, wideKeys, modest, calm, conditions, laid).
  DERIVED. THE GIVEN ROWS OF THIS SEAT. 4 by the template 'for every input the law returns true; each argument reads behind the call as it read before'; 0 by the template 'total and deterministic' (their statements: YtpaijobmoddgpabTotals.lean).
  GIVEN WITH THE SEED: the statements are not yours to turn. If you find one false, say at which input.
  Laid BY PROGRAM, IN A SANDBOX (cutbox-rows.mjs): the forced cells as the released guide's own fill.sh prints them over the translation 85e0c92295be9887… (all of the seat's roots in one cut). By AI agents, Wed Nov 11 2026. No macro, syntax, notation, axiom, sorry.
-/
import Derived.Test.YtpaijobmoddgpabChecked
import GoSem.Claim
import GoSem.ClaimJoined
import GoSem.ClaimMapViews
import Derived.JoinedTies
import Derived.KernelRfl
namespace Go.Proofs.Ytpaijobmoddgpab
/- THE CELL 'sum', in the pinned program and in every row, IS THE sha256 OF THE DUMP (.gsa) THAT YtpaijobmoddgpabProg.lean LOADS. Nothing in Lean hashes anything: it is a label: what it is worth is what the hold of that sum in a sandbox is worth. -/
noncomputable def Try.pinned : Pinned := { name := "ytpaijobmoddgpab", sum := "85e0c92295be98874c5a2cf235a017ffbd8501cbab5de5e257ce5efb7648b749", checked := Try.checked }
namespace Rows
def none {H : Type} : Left H := { results := [], args := [] }

/-- 'laws.FnExactMeanGame': WHATEVER THE INPUT: true; the input reads as it did. -/
def fnExactMeanGameSpec : ChangeSpec := { name := "fnExactMeanGame", fn := fun _ => fun
  | [d1, d2, d3] => { results := [.lit (.bool true)], args := [d1, d2, d3] }
  | _ => none }
def fnExactMeanGameRow : OpenClaim := { program := "ytpaijobmoddgpab", sum := "85e0c92295be98874c5a2cf235a017ffbd8501cbab5de5e257ce5efb7648b749", func := "loop.example/g01206/laws.FnExactMeanGame", spec := "fnExactMeanGame", unfollowed := true, recurses := true, plainKeys := false, apart := false }
def FnExactMeanGameSaid : Prop := fnExactMeanGameRow.holds Try.pinned (OpenSpec.ofChange fnExactMeanGameSpec)

/-- ITS FALSE NEIGHBOUR: 'it returns false'. Refute it at one input. -/
def fnExactMeanGameWrong : ChangeSpec := { name := "fnExactMeanGame", fn := fun _ => fun
  | [d1, d2, d3] => { results := [.lit (.bool false)], args := [d1, d2, d3] }
  | _ => none }
def FnExactMeanGameWrongFalsely : Prop := fnExactMeanGameRow.holds Try.pinned (OpenSpec.ofChange fnExactMeanGameWrong)

/-- 'laws.FnExactChanceOdd': WHATEVER THE INPUT: true; the input reads as it did. -/
def fnExactChanceOddSpec : ChangeSpec := { name := "fnExactChanceOdd", fn := fun _ => fun
  | [d1, d2, d3] => { results := [.lit (.bool true)], args := [d1, d2, d3] }
  | _ => none }
def fnExactChanceOddRow : OpenClaim := { program := "ytpaijobmoddgpab", sum := "85e0c92295be98874c5a2cf235a017ffbd8501cbab5de5e257ce5efb7648b749", func := "loop.example/g01206/laws.FnExactChanceOdd", spec := "fnExactChanceOdd", unfollowed := true, recurses := true, plainKeys := false, apart := false }
def FnExactChanceOddSaid : Prop := fnExactChanceOddRow.holds Try.pinned (OpenSpec.ofChange fnExactChanceOddSpec)

/-- ITS FALSE NEIGHBOUR: 'it returns false'. Refute it at one input. -/
def fnExactChanceOddWrong : ChangeSpec := { name := "fnExactChanceOdd", fn := fun _ => fun
  | [d1, d2, d3] => { results := [.lit (.bool false)], args := [d1, d2, d3] }
  | _ => none }
def FnExactChanceOddWrongFalsely : Prop := fnExactChanceOddRow.holds Try.pinned (OpenSpec.ofChange fnExactChanceOddWrong)

/-- 'laws.FnExactLosingSets': WHATEVER THE INPUT: true; the input reads as it did. -/
def fnExactLosingSetsSpec : ChangeSpec := { name := "fnExactLosingSets", fn := fun _ => fun
  | [d1, d2, d3] => { results := [.lit (.bool true)], args := [d1, d2, d3] }
  | _ => none }
def fnExactLosingSetsRow : OpenClaim := { program := "ytpaijobmoddgpab", sum := "85e0c92295be98874c5a2cf235a017ffbd8501cbab5de5e257ce5efb7648b749", func := "loop.example/g01206/laws.FnExactLosingSets", spec := "fnExactLosingSets", unfollowed := true, recurses := true, plainKeys := false, apart := false }
def FnExactLosingSetsSaid : Prop := fnExactLosingSetsRow.holds Try.pinned (OpenSpec.ofChange fnExactLosingSetsSpec)

/-- ITS FALSE NEIGHBOUR: 'it returns false'. Refute it at one input. -/
def fnExactLosingSetsWrong : ChangeSpec := { name := "fnExactLosingSets", fn := fun _ => fun
  | [d1, d2, d3] => { results := [.lit (.bool false)], args := [d1, d2, d3] }
  | _ => none }
def FnExactLosingSetsWrongFalsely : Prop := fnExactLosingSetsRow.holds Try.pinned (OpenSpec.ofChange fnExactLosingSetsWrong)

/-- 'laws.FnExactWordAt': WHATEVER THE INPUT: true; the input reads as it did. -/
def fnExactWordAtSpec : ChangeSpec := { name := "fnExactWordAt", fn := fun _ => fun
  | [d1, d2] => { results := [.lit (.bool true)], args := [d1, d2] }
  | _ => none }
def fnExactWordAtRow : OpenClaim := { program := "ytpaijobmoddgpab", sum := "85e0c92295be98874c5a2cf235a017ffbd8501cbab5de5e257ce5efb7648b749", func := "loop.example/g01206/laws.FnExactWordAt", spec := "fnExactWordAt", unfollowed := true, recurses := true, plainKeys := false, apart := false }
def FnExactWordAtSaid : Prop := fnExactWordAtRow.holds Try.pinned (OpenSpec.ofChange fnExactWordAtSpec)

/-- ITS FALSE NEIGHBOUR: 'it returns false'. Refute it at one input. -/
def fnExactWordAtWrong : ChangeSpec := { name := "fnExactWordAt", fn := fun _ => fun
  | [d1, d2] => { results := [.lit (.bool false)], args := [d1, d2] }
  | _ => none }
def FnExactWordAtWrongFalsely : Prop := fnExactWordAtRow.holds Try.pinned (OpenSpec.ofChange fnExactWordAtWrong)

/- THE SECOND FORM. 'bulk': how many values and letters a reading holds, each counted each time it is reached (what is shared counts as often as it is met; a slice's spare places count too). A statement '..UptoSaid' is the law's where the arguments, and the package variables that the reading takes, are together of bulk at most 1048576: NARROWER than '..Said'. Prove '..Said' where nothing that the law and all that it calls make is longer than what came in: it says more and counts as full. Else prove '..UptoSaid'. A law counts once. -/
mutual
def uptoBulk {H : Type} : DataW H → Nat
  | .lit (.string bytes) => bytes.length + 1
  | .lit _ => 1
  | .nil => 1
  | .ptr d => uptoBulk d + 1
  | .slice elems spare => uptoBulkAll elems + uptoBulkAll spare + 1
  | .agg parts => uptoBulkAll parts + 1
  | .iface _ d => uptoBulk d + 1
  | .map entries => uptoBulkEntries entries + 1
  | .held _ => 1
def uptoBulkAll {H : Type} : List (DataW H) → Nat
  | [] => 0
  | d :: r => uptoBulk d + uptoBulkAll r
def uptoBulkEntries {H : Type} : List (Lit × DataW H) → Nat
  | [] => 0
  | x :: r => uptoBulkEntry x + uptoBulkEntries r
def uptoBulkEntry {H : Type} : Lit × DataW H → Nat
  | (.string bytes, d) => bytes.length + uptoBulk d + 1
  | (_, d) => uptoBulk d + 1
 end
def uptoSmall : (H : Type) → List (DataW H) → Bool := fun _ ds => decide (uptoBulkAll ds ≤ 1048576)
def OpenSpec.upto (s : _root_.Go.ChangeSpec) : _root_.Go.OpenSpec := { _root_.Go.OpenSpec.ofChange s with cond := some uptoSmall }

/-- 'laws.FnExactMeanGame', WHERE WHAT IT READS IS OF BULK AT MOST 1048576: true; the input reads as it did. -/
def fnExactMeanGameUptoRow : OpenClaim := { program := "ytpaijobmoddgpab", sum := "85e0c92295be98874c5a2cf235a017ffbd8501cbab5de5e257ce5efb7648b749", func := "loop.example/g01206/laws.FnExactMeanGame", spec := "fnExactMeanGame", unfollowed := true, recurses := true, plainKeys := false, apart := false, narrowed := true }
def FnExactMeanGameUptoSaid : Prop := fnExactMeanGameUptoRow.holds Try.pinned (OpenSpec.upto fnExactMeanGameSpec)

/-- 'laws.FnExactChanceOdd', WHERE WHAT IT READS IS OF BULK AT MOST 1048576: true; the input reads as it did. -/
def fnExactChanceOddUptoRow : OpenClaim := { program := "ytpaijobmoddgpab", sum := "85e0c92295be98874c5a2cf235a017ffbd8501cbab5de5e257ce5efb7648b749", func := "loop.example/g01206/laws.FnExactChanceOdd", spec := "fnExactChanceOdd", unfollowed := true, recurses := true, plainKeys := false, apart := false, narrowed := true }
def FnExactChanceOddUptoSaid : Prop := fnExactChanceOddUptoRow.holds Try.pinned (OpenSpec.upto fnExactChanceOddSpec)

/-- 'laws.FnExactLosingSets', WHERE WHAT IT READS IS OF BULK AT MOST 1048576: true; the input reads as it did. -/
def fnExactLosingSetsUptoRow : OpenClaim := { program := "ytpaijobmoddgpab", sum := "85e0c92295be98874c5a2cf235a017ffbd8501cbab5de5e257ce5efb7648b749", func := "loop.example/g01206/laws.FnExactLosingSets", spec := "fnExactLosingSets", unfollowed := true, recurses := true, plainKeys := false, apart := false, narrowed := true }
def FnExactLosingSetsUptoSaid : Prop := fnExactLosingSetsUptoRow.holds Try.pinned (OpenSpec.upto fnExactLosingSetsSpec)

/-- 'laws.FnExactWordAt', WHERE WHAT IT READS IS OF BULK AT MOST 1048576: true; the input reads as it did. -/
def fnExactWordAtUptoRow : OpenClaim := { program := "ytpaijobmoddgpab", sum := "85e0c92295be98874c5a2cf235a017ffbd8501cbab5de5e257ce5efb7648b749", func := "loop.example/g01206/laws.FnExactWordAt", spec := "fnExactWordAt", unfollowed := true, recurses := true, plainKeys := false, apart := false, narrowed := true }
def FnExactWordAtUptoSaid : Prop := fnExactWordAtUptoRow.holds Try.pinned (OpenSpec.upto fnExactWordAtSpec)

end Rows
end Go.Proofs.Ytpaijobmoddgpab
