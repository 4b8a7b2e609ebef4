/-
  No cell of these rows narrows 'for every input' (looked for: loops, veiled, ifaces, maps, wideKeys, modest, calm, conditions, laid).
  DERIVED. THE GIVEN ROWS OF THIS SEAT. 12 by the template 'for every input the law returns true; each argument reads behind the call as it read before'; 0 by the template 'total and deterministic' (their statements: YtecbfndgdmpacaaTotals.lean).
  GIVEN WITH THE SEED: the statements are not yours to turn. If you find one false, say at which input.
  Laid BY PROGRAM, IN A SANDBOX (cutbox-rows.mjs): the forced cells as the released guide's own fill.sh prints them over the translation f395123748b2c037… (all of the seat's roots in one cut). By AI agents, Wed Nov 11 2026. No macro, syntax, notation, axiom, sorry.
-/
import Derived.Test.YtecbfndgdmpacaaChecked
import GoSem.Claim
import GoSem.ClaimJoined
import GoSem.ClaimMapViews
import Derived.JoinedTies
import Derived.KernelRfl
namespace Go.Proofs.Ytecbfndgdmpacaa
/- THE CELL 'sum', in the pinned program and in every row, IS THE sha256 OF THE DUMP (.gsa) THAT YtecbfndgdmpacaaProg.lean LOADS. Nothing in Lean hashes anything: it is a label: what it is worth is what the hold of that sum in a sandbox is worth. -/
noncomputable def Try.pinned : Pinned := { name := "ytecbfndgdmpacaa", sum := "f395123748b2c0372f920b55042493185e45ff2344c11d7b1cfa9da3754d7579", checked := Try.checked }
namespace Rows
def none {H : Type} : Left H := { results := [], args := [] }

/-- 'laws.FnExactCanDrop': WHATEVER THE INPUT: true; the input reads as it did. -/
def fnExactCanDropSpec : ChangeSpec := { name := "fnExactCanDrop", fn := fun _ => fun
  | [d1, d2, d3] => { results := [.lit (.bool true)], args := [d1, d2, d3] }
  | _ => none }
def fnExactCanDropRow : OpenClaim := { program := "ytecbfndgdmpacaa", sum := "f395123748b2c0372f920b55042493185e45ff2344c11d7b1cfa9da3754d7579", func := "loop.example/g01206/laws.FnExactCanDrop", spec := "fnExactCanDrop", unfollowed := true, recurses := true, plainKeys := false, apart := false }
def FnExactCanDropSaid : Prop := fnExactCanDropRow.holds Try.pinned (OpenSpec.ofChange fnExactCanDropSpec)

/-- ITS FALSE NEIGHBOUR: 'it returns false'. Refute it at one input. -/
def fnExactCanDropWrong : ChangeSpec := { name := "fnExactCanDrop", fn := fun _ => fun
  | [d1, d2, d3] => { results := [.lit (.bool false)], args := [d1, d2, d3] }
  | _ => none }
def FnExactCanDropWrongFalsely : Prop := fnExactCanDropRow.holds Try.pinned (OpenSpec.ofChange fnExactCanDropWrong)

/-- 'laws.FnExactDropMoves': WHATEVER THE INPUT: true; the input reads as it did. -/
def fnExactDropMovesSpec : ChangeSpec := { name := "fnExactDropMoves", fn := fun _ => fun
  | [d1, d2, d3] => { results := [.lit (.bool true)], args := [d1, d2, d3] }
  | _ => none }
def fnExactDropMovesRow : OpenClaim := { program := "ytecbfndgdmpacaa", sum := "f395123748b2c0372f920b55042493185e45ff2344c11d7b1cfa9da3754d7579", func := "loop.example/g01206/laws.FnExactDropMoves", spec := "fnExactDropMoves", unfollowed := true, recurses := true, plainKeys := false, apart := false }
def FnExactDropMovesSaid : Prop := fnExactDropMovesRow.holds Try.pinned (OpenSpec.ofChange fnExactDropMovesSpec)

/-- ITS FALSE NEIGHBOUR: 'it returns false'. Refute it at one input. -/
def fnExactDropMovesWrong : ChangeSpec := { name := "fnExactDropMoves", fn := fun _ => fun
  | [d1, d2, d3] => { results := [.lit (.bool false)], args := [d1, d2, d3] }
  | _ => none }
def FnExactDropMovesWrongFalsely : Prop := fnExactDropMovesRow.holds Try.pinned (OpenSpec.ofChange fnExactDropMovesWrong)

/-- 'laws.FnExactCanKeep': WHATEVER THE INPUT: true; the input reads as it did. -/
def fnExactCanKeepSpec : ChangeSpec := { name := "fnExactCanKeep", fn := fun _ => fun
  | [d1, d2, d3] => { results := [.lit (.bool true)], args := [d1, d2, d3] }
  | _ => none }
def fnExactCanKeepRow : OpenClaim := { program := "ytecbfndgdmpacaa", sum := "f395123748b2c0372f920b55042493185e45ff2344c11d7b1cfa9da3754d7579", func := "loop.example/g01206/laws.FnExactCanKeep", spec := "fnExactCanKeep", unfollowed := true, recurses := true, plainKeys := false, apart := false }
def FnExactCanKeepSaid : Prop := fnExactCanKeepRow.holds Try.pinned (OpenSpec.ofChange fnExactCanKeepSpec)

/-- ITS FALSE NEIGHBOUR: 'it returns false'. Refute it at one input. -/
def fnExactCanKeepWrong : ChangeSpec := { name := "fnExactCanKeep", fn := fun _ => fun
  | [d1, d2, d3] => { results := [.lit (.bool false)], args := [d1, d2, d3] }
  | _ => none }
def FnExactCanKeepWrongFalsely : Prop := fnExactCanKeepRow.holds Try.pinned (OpenSpec.ofChange fnExactCanKeepWrong)

/-- 'laws.FnExactKeepMoves': WHATEVER THE INPUT: true; the input reads as it did. -/
def fnExactKeepMovesSpec : ChangeSpec := { name := "fnExactKeepMoves", fn := fun _ => fun
  | [d1, d2, d3] => { results := [.lit (.bool true)], args := [d1, d2, d3] }
  | _ => none }
def fnExactKeepMovesRow : OpenClaim := { program := "ytecbfndgdmpacaa", sum := "f395123748b2c0372f920b55042493185e45ff2344c11d7b1cfa9da3754d7579", func := "loop.example/g01206/laws.FnExactKeepMoves", spec := "fnExactKeepMoves", unfollowed := true, recurses := true, plainKeys := false, apart := false }
def FnExactKeepMovesSaid : Prop := fnExactKeepMovesRow.holds Try.pinned (OpenSpec.ofChange fnExactKeepMovesSpec)

/-- ITS FALSE NEIGHBOUR: 'it returns false'. Refute it at one input. -/
def fnExactKeepMovesWrong : ChangeSpec := { name := "fnExactKeepMoves", fn := fun _ => fun
  | [d1, d2, d3] => { results := [.lit (.bool false)], args := [d1, d2, d3] }
  | _ => none }
def FnExactKeepMovesWrongFalsely : Prop := fnExactKeepMovesRow.holds Try.pinned (OpenSpec.ofChange fnExactKeepMovesWrong)

/-- 'laws.FnExactKeepNumber': WHATEVER THE INPUT: true; the input reads as it did. -/
def fnExactKeepNumberSpec : ChangeSpec := { name := "fnExactKeepNumber", fn := fun _ => fun
  | [d1, d2, d3] => { results := [.lit (.bool true)], args := [d1, d2, d3] }
  | _ => none }
def fnExactKeepNumberRow : OpenClaim := { program := "ytecbfndgdmpacaa", sum := "f395123748b2c0372f920b55042493185e45ff2344c11d7b1cfa9da3754d7579", func := "loop.example/g01206/laws.FnExactKeepNumber", spec := "fnExactKeepNumber", unfollowed := true, recurses := true, plainKeys := false, apart := false }
def FnExactKeepNumberSaid : Prop := fnExactKeepNumberRow.holds Try.pinned (OpenSpec.ofChange fnExactKeepNumberSpec)

/-- ITS FALSE NEIGHBOUR: 'it returns false'. Refute it at one input. -/
def fnExactKeepNumberWrong : ChangeSpec := { name := "fnExactKeepNumber", fn := fun _ => fun
  | [d1, d2, d3] => { results := [.lit (.bool false)], args := [d1, d2, d3] }
  | _ => none }
def FnExactKeepNumberWrongFalsely : Prop := fnExactKeepNumberRow.holds Try.pinned (OpenSpec.ofChange fnExactKeepNumberWrong)

/-- 'laws.FnExactSafeNails': WHATEVER THE INPUT: true; the input reads as it did. -/
def fnExactSafeNailsSpec : ChangeSpec := { name := "fnExactSafeNails", fn := fun _ => fun
  | [d1, d2, d3] => { results := [.lit (.bool true)], args := [d1, d2, d3] }
  | _ => none }
def fnExactSafeNailsRow : OpenClaim := { program := "ytecbfndgdmpacaa", sum := "f395123748b2c0372f920b55042493185e45ff2344c11d7b1cfa9da3754d7579", func := "loop.example/g01206/laws.FnExactSafeNails", spec := "fnExactSafeNails", unfollowed := true, recurses := true, plainKeys := false, apart := false }
def FnExactSafeNailsSaid : Prop := fnExactSafeNailsRow.holds Try.pinned (OpenSpec.ofChange fnExactSafeNailsSpec)

/-- ITS FALSE NEIGHBOUR: 'it returns false'. Refute it at one input. -/
def fnExactSafeNailsWrong : ChangeSpec := { name := "fnExactSafeNails", fn := fun _ => fun
  | [d1, d2, d3] => { results := [.lit (.bool false)], args := [d1, d2, d3] }
  | _ => none }
def FnExactSafeNailsWrongFalsely : Prop := fnExactSafeNailsRow.holds Try.pinned (OpenSpec.ofChange fnExactSafeNailsWrong)

/-- 'laws.FnExactLongestGame': WHATEVER THE INPUT: true; the input reads as it did. -/
def fnExactLongestGameSpec : ChangeSpec := { name := "fnExactLongestGame", fn := fun _ => fun
  | [d1, d2, d3] => { results := [.lit (.bool true)], args := [d1, d2, d3] }
  | _ => none }
def fnExactLongestGameRow : OpenClaim := { program := "ytecbfndgdmpacaa", sum := "f395123748b2c0372f920b55042493185e45ff2344c11d7b1cfa9da3754d7579", func := "loop.example/g01206/laws.FnExactLongestGame", spec := "fnExactLongestGame", unfollowed := true, recurses := true, plainKeys := false, apart := false }
def FnExactLongestGameSaid : Prop := fnExactLongestGameRow.holds Try.pinned (OpenSpec.ofChange fnExactLongestGameSpec)

/-- ITS FALSE NEIGHBOUR: 'it returns false'. Refute it at one input. -/
def fnExactLongestGameWrong : ChangeSpec := { name := "fnExactLongestGame", fn := fun _ => fun
  | [d1, d2, d3] => { results := [.lit (.bool false)], args := [d1, d2, d3] }
  | _ => none }
def FnExactLongestGameWrongFalsely : Prop := fnExactLongestGameRow.holds Try.pinned (OpenSpec.ofChange fnExactLongestGameWrong)

/-- 'laws.FnExactShortestGame': WHATEVER THE INPUT: true; the input reads as it did. -/
def fnExactShortestGameSpec : ChangeSpec := { name := "fnExactShortestGame", fn := fun _ => fun
  | [d1, d2, d3] => { results := [.lit (.bool true)], args := [d1, d2, d3] }
  | _ => none }
def fnExactShortestGameRow : OpenClaim := { program := "ytecbfndgdmpacaa", sum := "f395123748b2c0372f920b55042493185e45ff2344c11d7b1cfa9da3754d7579", func := "loop.example/g01206/laws.FnExactShortestGame", spec := "fnExactShortestGame", unfollowed := true, recurses := true, plainKeys := false, apart := false }
def FnExactShortestGameSaid : Prop := fnExactShortestGameRow.holds Try.pinned (OpenSpec.ofChange fnExactShortestGameSpec)

/-- ITS FALSE NEIGHBOUR: 'it returns false'. Refute it at one input. -/
def fnExactShortestGameWrong : ChangeSpec := { name := "fnExactShortestGame", fn := fun _ => fun
  | [d1, d2, d3] => { results := [.lit (.bool false)], args := [d1, d2, d3] }
  | _ => none }
def FnExactShortestGameWrongFalsely : Prop := fnExactShortestGameRow.holds Try.pinned (OpenSpec.ofChange fnExactShortestGameWrong)

/-- 'laws.FnExactMeanGame': WHATEVER THE INPUT: true; the input reads as it did. -/
def fnExactMeanGameSpec : ChangeSpec := { name := "fnExactMeanGame", fn := fun _ => fun
  | [d1, d2, d3] => { results := [.lit (.bool true)], args := [d1, d2, d3] }
  | _ => none }
def fnExactMeanGameRow : OpenClaim := { program := "ytecbfndgdmpacaa", sum := "f395123748b2c0372f920b55042493185e45ff2344c11d7b1cfa9da3754d7579", func := "loop.example/g01206/laws.FnExactMeanGame", spec := "fnExactMeanGame", unfollowed := true, recurses := true, plainKeys := false, apart := false }
def FnExactMeanGameSaid : Prop := fnExactMeanGameRow.holds Try.pinned (OpenSpec.ofChange fnExactMeanGameSpec)

/-- ITS FALSE NEIGHBOUR: 'it returns false'. Refute it at one input. -/
def fnExactMeanGameWrong : ChangeSpec := { name := "fnExactMeanGame", fn := fun _ => fun
  | [d1, d2, d3] => { results := [.lit (.bool false)], args := [d1, d2, d3] }
  | _ => none }
def FnExactMeanGameWrongFalsely : Prop := fnExactMeanGameRow.holds Try.pinned (OpenSpec.ofChange fnExactMeanGameWrong)

/-- 'laws.FnExactChanceOdd': WHATEVER THE INPUT: true; the input reads as it did. -/
def fnExactChanceOddSpec : ChangeSpec := { name := "fnExactChanceOdd", fn := fun _ => fun
  | [d1, d2, d3] => { results := [.lit (.bool true)], args := [d1, d2, d3] }
  | _ => none }
def fnExactChanceOddRow : OpenClaim := { program := "ytecbfndgdmpacaa", sum := "f395123748b2c0372f920b55042493185e45ff2344c11d7b1cfa9da3754d7579", func := "loop.example/g01206/laws.FnExactChanceOdd", spec := "fnExactChanceOdd", unfollowed := true, recurses := true, plainKeys := false, apart := false }
def FnExactChanceOddSaid : Prop := fnExactChanceOddRow.holds Try.pinned (OpenSpec.ofChange fnExactChanceOddSpec)

/-- ITS FALSE NEIGHBOUR: 'it returns false'. Refute it at one input. -/
def fnExactChanceOddWrong : ChangeSpec := { name := "fnExactChanceOdd", fn := fun _ => fun
  | [d1, d2, d3] => { results := [.lit (.bool false)], args := [d1, d2, d3] }
  | _ => none }
def FnExactChanceOddWrongFalsely : Prop := fnExactChanceOddRow.holds Try.pinned (OpenSpec.ofChange fnExactChanceOddWrong)

/-- 'laws.FnExactPlayNails': WHATEVER THE INPUT: true; the input reads as it did. -/
def fnExactPlayNailsSpec : ChangeSpec := { name := "fnExactPlayNails", fn := fun _ => fun
  | [d1, d2, d3, d4] => { results := [.lit (.bool true)], args := [d1, d2, d3, d4] }
  | _ => none }
def fnExactPlayNailsRow : OpenClaim := { program := "ytecbfndgdmpacaa", sum := "f395123748b2c0372f920b55042493185e45ff2344c11d7b1cfa9da3754d7579", func := "loop.example/g01206/laws.FnExactPlayNails", spec := "fnExactPlayNails", unfollowed := true, recurses := true, plainKeys := false, apart := false }
def FnExactPlayNailsSaid : Prop := fnExactPlayNailsRow.holds Try.pinned (OpenSpec.ofChange fnExactPlayNailsSpec)

/-- ITS FALSE NEIGHBOUR: 'it returns false'. Refute it at one input. -/
def fnExactPlayNailsWrong : ChangeSpec := { name := "fnExactPlayNails", fn := fun _ => fun
  | [d1, d2, d3, d4] => { results := [.lit (.bool false)], args := [d1, d2, d3, d4] }
  | _ => none }
def FnExactPlayNailsWrongFalsely : Prop := fnExactPlayNailsRow.holds Try.pinned (OpenSpec.ofChange fnExactPlayNailsWrong)

/-- 'laws.FnExactLosingSets': WHATEVER THE INPUT: true; the input reads as it did. -/
def fnExactLosingSetsSpec : ChangeSpec := { name := "fnExactLosingSets", fn := fun _ => fun
  | [d1, d2, d3] => { results := [.lit (.bool true)], args := [d1, d2, d3] }
  | _ => none }
def fnExactLosingSetsRow : OpenClaim := { program := "ytecbfndgdmpacaa", sum := "f395123748b2c0372f920b55042493185e45ff2344c11d7b1cfa9da3754d7579", func := "loop.example/g01206/laws.FnExactLosingSets", spec := "fnExactLosingSets", unfollowed := true, recurses := true, plainKeys := false, apart := false }
def FnExactLosingSetsSaid : Prop := fnExactLosingSetsRow.holds Try.pinned (OpenSpec.ofChange fnExactLosingSetsSpec)

/-- ITS FALSE NEIGHBOUR: 'it returns false'. Refute it at one input. -/
def fnExactLosingSetsWrong : ChangeSpec := { name := "fnExactLosingSets", fn := fun _ => fun
  | [d1, d2, d3] => { results := [.lit (.bool false)], args := [d1, d2, d3] }
  | _ => none }
def FnExactLosingSetsWrongFalsely : Prop := fnExactLosingSetsRow.holds Try.pinned (OpenSpec.ofChange fnExactLosingSetsWrong)

/- THE SECOND FORM. 'bulk': how many values and letters a reading holds, each counted each time it is reached (what is shared counts as often as it is met; a slice's spare places count too). A statement '..UptoSaid' is the law's where the arguments, and the package variables that the reading takes, are together of bulk at most 1048576: NARROWER than '..Said'. Prove '..Said' where nothing that the law and all that it calls make is longer than what came in: it says more and counts as full. Else prove '..UptoSaid'. A law counts once. -/
mutual
def uptoBulk {H : Type} : DataW H → Nat
  | .lit (.string bytes) => bytes.length + 1
  | .lit _ => 1
  | .nil => 1
  | .ptr d => uptoBulk d + 1
  | .slice elems spare => uptoBulkAll elems + uptoBulkAll spare + 1
  | .agg parts => uptoBulkAll parts + 1
  | .iface _ d => uptoBulk d + 1
  | .map entries => uptoBulkEntries entries + 1
  | .held _ => 1
def uptoBulkAll {H : Type} : List (DataW H) → Nat
  | [] => 0
  | d :: r => uptoBulk d + uptoBulkAll r
def uptoBulkEntries {H : Type} : List (Lit × DataW H) → Nat
  | [] => 0
  | x :: r => uptoBulkEntry x + uptoBulkEntries r
def uptoBulkEntry {H : Type} : Lit × DataW H → Nat
  | (.string bytes, d) => bytes.length + uptoBulk d + 1
  | (_, d) => uptoBulk d + 1
 end
def uptoSmall : (H : Type) → List (DataW H) → Bool := fun _ ds => decide (uptoBulkAll ds ≤ 1048576)
def OpenSpec.upto (s : _root_.Go.ChangeSpec) : _root_.Go.OpenSpec := { _root_.Go.OpenSpec.ofChange s with cond := some uptoSmall }

/-- 'laws.FnExactCanDrop', WHERE WHAT IT READS IS OF BULK AT MOST 1048576: true; the input reads as it did. -/
def fnExactCanDropUptoRow : OpenClaim := { program := "ytecbfndgdmpacaa", sum := "f395123748b2c0372f920b55042493185e45ff2344c11d7b1cfa9da3754d7579", func := "loop.example/g01206/laws.FnExactCanDrop", spec := "fnExactCanDrop", unfollowed := true, recurses := true, plainKeys := false, apart := false, narrowed := true }
def FnExactCanDropUptoSaid : Prop := fnExactCanDropUptoRow.holds Try.pinned (OpenSpec.upto fnExactCanDropSpec)

/-- 'laws.FnExactDropMoves', WHERE WHAT IT READS IS OF BULK AT MOST 1048576: true; the input reads as it did. -/
def fnExactDropMovesUptoRow : OpenClaim := { program := "ytecbfndgdmpacaa", sum := "f395123748b2c0372f920b55042493185e45ff2344c11d7b1cfa9da3754d7579", func := "loop.example/g01206/laws.FnExactDropMoves", spec := "fnExactDropMoves", unfollowed := true, recurses := true, plainKeys := false, apart := false, narrowed := true }
def FnExactDropMovesUptoSaid : Prop := fnExactDropMovesUptoRow.holds Try.pinned (OpenSpec.upto fnExactDropMovesSpec)

/-- 'laws.FnExactCanKeep', WHERE WHAT IT READS IS OF BULK AT MOST 1048576: true; the input reads as it did. -/
def fnExactCanKeepUptoRow : OpenClaim := { program := "ytecbfndgdmpacaa", sum := "f395123748b2c0372f920b55042493185e45ff2344c11d7b1cfa9da3754d7579", func := "loop.example/g01206/laws.FnExactCanKeep", spec := "fnExactCanKeep", unfollowed := true, recurses := true, plainKeys := false, apart := false, narrowed := true }
def FnExactCanKeepUptoSaid : Prop := fnExactCanKeepUptoRow.holds Try.pinned (OpenSpec.upto fnExactCanKeepSpec)

/-- 'laws.FnExactKeepMoves', WHERE WHAT IT READS IS OF BULK AT MOST 1048576: true; the input reads as it did. -/
def fnExactKeepMovesUptoRow : OpenClaim := { program := "ytecbfndgdmpacaa", sum := "f395123748b2c0372f920b55042493185e45ff2344c11d7b1cfa9da3754d7579", func := "loop.example/g01206/laws.FnExactKeepMoves", spec := "fnExactKeepMoves", unfollowed := true, recurses := true, plainKeys := false, apart := false, narrowed := true }
def FnExactKeepMovesUptoSaid : Prop := fnExactKeepMovesUptoRow.holds Try.pinned (OpenSpec.upto fnExactKeepMovesSpec)

/-- 'laws.FnExactKeepNumber', WHERE WHAT IT READS IS OF BULK AT MOST 1048576: true; the input reads as it did. -/
def fnExactKeepNumberUptoRow : OpenClaim := { program := "ytecbfndgdmpacaa", sum := "f395123748b2c0372f920b55042493185e45ff2344c11d7b1cfa9da3754d7579", func := "loop.example/g01206/laws.FnExactKeepNumber", spec := "fnExactKeepNumber", unfollowed := true, recurses := true, plainKeys := false, apart := false, narrowed := true }
def FnExactKeepNumberUptoSaid : Prop := fnExactKeepNumberUptoRow.holds Try.pinned (OpenSpec.upto fnExactKeepNumberSpec)

/-- 'laws.FnExactSafeNails', WHERE WHAT IT READS IS OF BULK AT MOST 1048576: true; the input reads as it did. -/
def fnExactSafeNailsUptoRow : OpenClaim := { program := "ytecbfndgdmpacaa", sum := "f395123748b2c0372f920b55042493185e45ff2344c11d7b1cfa9da3754d7579", func := "loop.example/g01206/laws.FnExactSafeNails", spec := "fnExactSafeNails", unfollowed := true, recurses := true, plainKeys := false, apart := false, narrowed := true }
def FnExactSafeNailsUptoSaid : Prop := fnExactSafeNailsUptoRow.holds Try.pinned (OpenSpec.upto fnExactSafeNailsSpec)

/-- 'laws.FnExactLongestGame', WHERE WHAT IT READS IS OF BULK AT MOST 1048576: true; the input reads as it did. -/
def fnExactLongestGameUptoRow : OpenClaim := { program := "ytecbfndgdmpacaa", sum := "f395123748b2c0372f920b55042493185e45ff2344c11d7b1cfa9da3754d7579", func := "loop.example/g01206/laws.FnExactLongestGame", spec := "fnExactLongestGame", unfollowed := true, recurses := true, plainKeys := false, apart := false, narrowed := true }
def FnExactLongestGameUptoSaid : Prop := fnExactLongestGameUptoRow.holds Try.pinned (OpenSpec.upto fnExactLongestGameSpec)

/-- 'laws.FnExactShortestGame', WHERE WHAT IT READS IS OF BULK AT MOST 1048576: true; the input reads as it did. -/
def fnExactShortestGameUptoRow : OpenClaim := { program := "ytecbfndgdmpacaa", sum := "f395123748b2c0372f920b55042493185e45ff2344c11d7b1cfa9da3754d7579", func := "loop.example/g01206/laws.FnExactShortestGame", spec := "fnExactShortestGame", unfollowed := true, recurses := true, plainKeys := false, apart := false, narrowed := true }
def FnExactShortestGameUptoSaid : Prop := fnExactShortestGameUptoRow.holds Try.pinned (OpenSpec.upto fnExactShortestGameSpec)

/-- 'laws.FnExactMeanGame', WHERE WHAT IT READS IS OF BULK AT MOST 1048576: true; the input reads as it did. -/
def fnExactMeanGameUptoRow : OpenClaim := { program := "ytecbfndgdmpacaa", sum := "f395123748b2c0372f920b55042493185e45ff2344c11d7b1cfa9da3754d7579", func := "loop.example/g01206/laws.FnExactMeanGame", spec := "fnExactMeanGame", unfollowed := true, recurses := true, plainKeys := false, apart := false, narrowed := true }
def FnExactMeanGameUptoSaid : Prop := fnExactMeanGameUptoRow.holds Try.pinned (OpenSpec.upto fnExactMeanGameSpec)

/-- 'laws.FnExactChanceOdd', WHERE WHAT IT READS IS OF BULK AT MOST 1048576: true; the input reads as it did. -/
def fnExactChanceOddUptoRow : OpenClaim := { program := "ytecbfndgdmpacaa", sum := "f395123748b2c0372f920b55042493185e45ff2344c11d7b1cfa9da3754d7579", func := "loop.example/g01206/laws.FnExactChanceOdd", spec := "fnExactChanceOdd", unfollowed := true, recurses := true, plainKeys := false, apart := false, narrowed := true }
def FnExactChanceOddUptoSaid : Prop := fnExactChanceOddUptoRow.holds Try.pinned (OpenSpec.upto fnExactChanceOddSpec)

/-- 'laws.FnExactPlayNails', WHERE WHAT IT READS IS OF BULK AT MOST 1048576: true; the input reads as it did. -/
def fnExactPlayNailsUptoRow : OpenClaim := { program := "ytecbfndgdmpacaa", sum := "f395123748b2c0372f920b55042493185e45ff2344c11d7b1cfa9da3754d7579", func := "loop.example/g01206/laws.FnExactPlayNails", spec := "fnExactPlayNails", unfollowed := true, recurses := true, plainKeys := false, apart := false, narrowed := true }
def FnExactPlayNailsUptoSaid : Prop := fnExactPlayNailsUptoRow.holds Try.pinned (OpenSpec.upto fnExactPlayNailsSpec)

/-- 'laws.FnExactLosingSets', WHERE WHAT IT READS IS OF BULK AT MOST 1048576: true; the input reads as it did. -/
def fnExactLosingSetsUptoRow : OpenClaim := { program := "ytecbfndgdmpacaa", sum := "f395123748b2c0372f920b55042493185e45ff2344c11d7b1cfa9da3754d7579", func := "loop.example/g01206/laws.FnExactLosingSets", spec := "fnExactLosingSets", unfollowed := true, recurses := true, plainKeys := false, apart := false, narrowed := true }
def FnExactLosingSetsUptoSaid : Prop := fnExactLosingSetsUptoRow.holds Try.pinned (OpenSpec.upto fnExactLosingSetsSpec)

end Rows
end Go.Proofs.Ytecbfndgdmpacaa
