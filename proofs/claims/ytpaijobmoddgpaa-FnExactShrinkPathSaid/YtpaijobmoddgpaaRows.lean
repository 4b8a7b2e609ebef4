/-
  No cell of these rows narrows 'for every input' (looked for: loops, veiled, ifaces, maps, wideKeys, modest, calm, conditions, laid).
  DERIVED. THE GIVEN ROWS OF THIS SEAT. 14 by the template 'for every input the law returns true; each argument reads behind the call as it read before'; 0 by the template 'total and deterministic' (their statements: YtpaijobmoddgpaaTotals.lean).
  GIVEN WITH THE SEED: the statements are not yours to turn. If you find one false, say at which input.
  Laid BY PROGRAM, IN A SANDBOX (cutbox-rows.mjs): the forced cells as the released guide's own fill.sh prints them over the translation 4fe6c9cae6e3ff6b… (all of the seat's roots in one cut). By AI agents, Wed Nov 11 2026. No macro, syntax, notation, axiom, sorry.
-/
import Derived.Test.YtpaijobmoddgpaaChecked
import GoSem.Claim
import GoSem.ClaimJoined
import GoSem.ClaimMapViews
import Derived.JoinedTies
import Derived.KernelRfl
namespace Go.Proofs.Ytpaijobmoddgpaa
/- THE CELL 'sum', in the pinned program and in every row, IS THE sha256 OF THE DUMP (.gsa) THAT YtpaijobmoddgpaaProg.lean LOADS. Nothing in Lean hashes anything: it is a label: what it is worth is what the hold of that sum in a sandbox is worth. -/
noncomputable def Try.pinned : Pinned := { name := "ytpaijobmoddgpaa", sum := "4fe6c9cae6e3ff6b5adc9677c39beb0b6b3ce2ed818e2a53038d62da936b8029", checked := Try.checked }
namespace Rows
def none {H : Type} : Left H := { results := [], args := [] }

/-- 'laws.FnExactIsPath': WHATEVER THE INPUT: true; the input reads as it did. -/
def fnExactIsPathSpec : ChangeSpec := { name := "fnExactIsPath", fn := fun _ => fun
  | [d] => { results := [.lit (.bool true)], args := [d] }
  | _ => none }
def fnExactIsPathRow : OpenClaim := { program := "ytpaijobmoddgpaa", sum := "4fe6c9cae6e3ff6b5adc9677c39beb0b6b3ce2ed818e2a53038d62da936b8029", func := "loop.example/g01206/laws.FnExactIsPath", spec := "fnExactIsPath", plainKeys := false, apart := false }
def FnExactIsPathSaid : Prop := fnExactIsPathRow.holds Try.pinned (OpenSpec.ofChange fnExactIsPathSpec)

/-- ITS FALSE NEIGHBOUR: 'it returns false'. Refute it at one input. -/
def fnExactIsPathWrong : ChangeSpec := { name := "fnExactIsPath", fn := fun _ => fun
  | [d] => { results := [.lit (.bool false)], args := [d] }
  | _ => none }
def FnExactIsPathWrongFalsely : Prop := fnExactIsPathRow.holds Try.pinned (OpenSpec.ofChange fnExactIsPathWrong)

/-- 'laws.FnExactEndOf': WHATEVER THE INPUT: true; the input reads as it did. -/
def fnExactEndOfSpec : ChangeSpec := { name := "fnExactEndOf", fn := fun _ => fun
  | [d] => { results := [.lit (.bool true)], args := [d] }
  | _ => none }
def fnExactEndOfRow : OpenClaim := { program := "ytpaijobmoddgpaa", sum := "4fe6c9cae6e3ff6b5adc9677c39beb0b6b3ce2ed818e2a53038d62da936b8029", func := "loop.example/g01206/laws.FnExactEndOf", spec := "fnExactEndOf", plainKeys := false, apart := false }
def FnExactEndOfSaid : Prop := fnExactEndOfRow.holds Try.pinned (OpenSpec.ofChange fnExactEndOfSpec)

/-- ITS FALSE NEIGHBOUR: 'it returns false'. Refute it at one input. -/
def fnExactEndOfWrong : ChangeSpec := { name := "fnExactEndOf", fn := fun _ => fun
  | [d] => { results := [.lit (.bool false)], args := [d] }
  | _ => none }
def FnExactEndOfWrongFalsely : Prop := fnExactEndOfRow.holds Try.pinned (OpenSpec.ofChange fnExactEndOfWrong)

/-- 'laws.FnExactIsClosed': WHATEVER THE INPUT: true; the input reads as it did. -/
def fnExactIsClosedSpec : ChangeSpec := { name := "fnExactIsClosed", fn := fun _ => fun
  | [d] => { results := [.lit (.bool true)], args := [d] }
  | _ => none }
def fnExactIsClosedRow : OpenClaim := { program := "ytpaijobmoddgpaa", sum := "4fe6c9cae6e3ff6b5adc9677c39beb0b6b3ce2ed818e2a53038d62da936b8029", func := "loop.example/g01206/laws.FnExactIsClosed", spec := "fnExactIsClosed", plainKeys := false, apart := false }
def FnExactIsClosedSaid : Prop := fnExactIsClosedRow.holds Try.pinned (OpenSpec.ofChange fnExactIsClosedSpec)

/-- ITS FALSE NEIGHBOUR: 'it returns false'. Refute it at one input. -/
def fnExactIsClosedWrong : ChangeSpec := { name := "fnExactIsClosed", fn := fun _ => fun
  | [d] => { results := [.lit (.bool false)], args := [d] }
  | _ => none }
def FnExactIsClosedWrongFalsely : Prop := fnExactIsClosedRow.holds Try.pinned (OpenSpec.ofChange fnExactIsClosedWrong)

/-- 'laws.FnExactReadPath': WHATEVER THE INPUT: true; the input reads as it did. -/
def fnExactReadPathSpec : ChangeSpec := { name := "fnExactReadPath", fn := fun _ => fun
  | [d] => { results := [.lit (.bool true)], args := [d] }
  | _ => none }
def fnExactReadPathRow : OpenClaim := { program := "ytpaijobmoddgpaa", sum := "4fe6c9cae6e3ff6b5adc9677c39beb0b6b3ce2ed818e2a53038d62da936b8029", func := "loop.example/g01206/laws.FnExactReadPath", spec := "fnExactReadPath", plainKeys := false, apart := false }
def FnExactReadPathSaid : Prop := fnExactReadPathRow.holds Try.pinned (OpenSpec.ofChange fnExactReadPathSpec)

/-- ITS FALSE NEIGHBOUR: 'it returns false'. Refute it at one input. -/
def fnExactReadPathWrong : ChangeSpec := { name := "fnExactReadPath", fn := fun _ => fun
  | [d] => { results := [.lit (.bool false)], args := [d] }
  | _ => none }
def FnExactReadPathWrongFalsely : Prop := fnExactReadPathRow.holds Try.pinned (OpenSpec.ofChange fnExactReadPathWrong)

/-- 'laws.FnExactLoopPath': WHATEVER THE INPUT: true; the input reads as it did. -/
def fnExactLoopPathSpec : ChangeSpec := { name := "fnExactLoopPath", fn := fun _ => fun
  | [d] => { results := [.lit (.bool true)], args := [d] }
  | _ => none }
def fnExactLoopPathRow : OpenClaim := { program := "ytpaijobmoddgpaa", sum := "4fe6c9cae6e3ff6b5adc9677c39beb0b6b3ce2ed818e2a53038d62da936b8029", func := "loop.example/g01206/laws.FnExactLoopPath", spec := "fnExactLoopPath", inPlace := ["internal/abi.NoEscape", "internal/bytealg.MakeNoZero"], plainKeys := false, apart := false }
def FnExactLoopPathSaid : Prop := fnExactLoopPathRow.holds Try.pinned (OpenSpec.ofChange fnExactLoopPathSpec)

/-- ITS FALSE NEIGHBOUR: 'it returns false'. Refute it at one input. -/
def fnExactLoopPathWrong : ChangeSpec := { name := "fnExactLoopPath", fn := fun _ => fun
  | [d] => { results := [.lit (.bool false)], args := [d] }
  | _ => none }
def FnExactLoopPathWrongFalsely : Prop := fnExactLoopPathRow.holds Try.pinned (OpenSpec.ofChange fnExactLoopPathWrong)

/-- 'laws.FnExactReversePath': WHATEVER THE INPUT: true; the input reads as it did. -/
def fnExactReversePathSpec : ChangeSpec := { name := "fnExactReversePath", fn := fun _ => fun
  | [d] => { results := [.lit (.bool true)], args := [d] }
  | _ => none }
def fnExactReversePathRow : OpenClaim := { program := "ytpaijobmoddgpaa", sum := "4fe6c9cae6e3ff6b5adc9677c39beb0b6b3ce2ed818e2a53038d62da936b8029", func := "loop.example/g01206/laws.FnExactReversePath", spec := "fnExactReversePath", unfollowed := true, recurses := true, plainKeys := false, apart := false }
def FnExactReversePathSaid : Prop := fnExactReversePathRow.holds Try.pinned (OpenSpec.ofChange fnExactReversePathSpec)

/-- ITS FALSE NEIGHBOUR: 'it returns false'. Refute it at one input. -/
def fnExactReversePathWrong : ChangeSpec := { name := "fnExactReversePath", fn := fun _ => fun
  | [d] => { results := [.lit (.bool false)], args := [d] }
  | _ => none }
def FnExactReversePathWrongFalsely : Prop := fnExactReversePathRow.holds Try.pinned (OpenSpec.ofChange fnExactReversePathWrong)

/-- 'laws.FnExactJoinPaths': WHATEVER THE INPUT: true; the input reads as it did. -/
def fnExactJoinPathsSpec : ChangeSpec := { name := "fnExactJoinPaths", fn := fun _ => fun
  | [d1, d2] => { results := [.lit (.bool true)], args := [d1, d2] }
  | _ => none }
def fnExactJoinPathsRow : OpenClaim := { program := "ytpaijobmoddgpaa", sum := "4fe6c9cae6e3ff6b5adc9677c39beb0b6b3ce2ed818e2a53038d62da936b8029", func := "loop.example/g01206/laws.FnExactJoinPaths", spec := "fnExactJoinPaths", plainKeys := false, apart := false }
def FnExactJoinPathsSaid : Prop := fnExactJoinPathsRow.holds Try.pinned (OpenSpec.ofChange fnExactJoinPathsSpec)

/-- ITS FALSE NEIGHBOUR: 'it returns false'. Refute it at one input. -/
def fnExactJoinPathsWrong : ChangeSpec := { name := "fnExactJoinPaths", fn := fun _ => fun
  | [d1, d2] => { results := [.lit (.bool false)], args := [d1, d2] }
  | _ => none }
def FnExactJoinPathsWrongFalsely : Prop := fnExactJoinPathsRow.holds Try.pinned (OpenSpec.ofChange fnExactJoinPathsWrong)

/-- 'laws.FnExactShrinkPath': WHATEVER THE INPUT: true; the input reads as it did. -/
def fnExactShrinkPathSpec : ChangeSpec := { name := "fnExactShrinkPath", fn := fun _ => fun
  | [d] => { results := [.lit (.bool true)], args := [d] }
  | _ => none }
def fnExactShrinkPathRow : OpenClaim := { program := "ytpaijobmoddgpaa", sum := "4fe6c9cae6e3ff6b5adc9677c39beb0b6b3ce2ed818e2a53038d62da936b8029", func := "loop.example/g01206/laws.FnExactShrinkPath", spec := "fnExactShrinkPath", unfollowed := true, recurses := true, plainKeys := false, apart := false }
def FnExactShrinkPathSaid : Prop := fnExactShrinkPathRow.holds Try.pinned (OpenSpec.ofChange fnExactShrinkPathSpec)

/-- ITS FALSE NEIGHBOUR: 'it returns false'. Refute it at one input. -/
def fnExactShrinkPathWrong : ChangeSpec := { name := "fnExactShrinkPath", fn := fun _ => fun
  | [d] => { results := [.lit (.bool false)], args := [d] }
  | _ => none }
def FnExactShrinkPathWrongFalsely : Prop := fnExactShrinkPathRow.holds Try.pinned (OpenSpec.ofChange fnExactShrinkPathWrong)

/-- 'laws.FnExactFlipPath': WHATEVER THE INPUT: true; the input reads as it did. -/
def fnExactFlipPathSpec : ChangeSpec := { name := "fnExactFlipPath", fn := fun _ => fun
  | [d] => { results := [.lit (.bool true)], args := [d] }
  | _ => none }
def fnExactFlipPathRow : OpenClaim := { program := "ytpaijobmoddgpaa", sum := "4fe6c9cae6e3ff6b5adc9677c39beb0b6b3ce2ed818e2a53038d62da936b8029", func := "loop.example/g01206/laws.FnExactFlipPath", spec := "fnExactFlipPath", unfollowed := true, recurses := true, plainKeys := false, apart := false }
def FnExactFlipPathSaid : Prop := fnExactFlipPathRow.holds Try.pinned (OpenSpec.ofChange fnExactFlipPathSpec)

/-- ITS FALSE NEIGHBOUR: 'it returns false'. Refute it at one input. -/
def fnExactFlipPathWrong : ChangeSpec := { name := "fnExactFlipPath", fn := fun _ => fun
  | [d] => { results := [.lit (.bool false)], args := [d] }
  | _ => none }
def FnExactFlipPathWrongFalsely : Prop := fnExactFlipPathRow.holds Try.pinned (OpenSpec.ofChange fnExactFlipPathWrong)

/-- 'laws.FnExactPushCorner': WHATEVER THE INPUT: true; the input reads as it did. -/
def fnExactPushCornerSpec : ChangeSpec := { name := "fnExactPushCorner", fn := fun _ => fun
  | [d1, d2] => { results := [.lit (.bool true)], args := [d1, d2] }
  | _ => none }
def fnExactPushCornerRow : OpenClaim := { program := "ytpaijobmoddgpaa", sum := "4fe6c9cae6e3ff6b5adc9677c39beb0b6b3ce2ed818e2a53038d62da936b8029", func := "loop.example/g01206/laws.FnExactPushCorner", spec := "fnExactPushCorner", plainKeys := false, apart := false }
def FnExactPushCornerSaid : Prop := fnExactPushCornerRow.holds Try.pinned (OpenSpec.ofChange fnExactPushCornerSpec)

/-- ITS FALSE NEIGHBOUR: 'it returns false'. Refute it at one input. -/
def fnExactPushCornerWrong : ChangeSpec := { name := "fnExactPushCorner", fn := fun _ => fun
  | [d1, d2] => { results := [.lit (.bool false)], args := [d1, d2] }
  | _ => none }
def FnExactPushCornerWrongFalsely : Prop := fnExactPushCornerRow.holds Try.pinned (OpenSpec.ofChange fnExactPushCornerWrong)

/-- 'laws.FnExactFreeCorners': WHATEVER THE INPUT: true; the input reads as it did. -/
def fnExactFreeCornersSpec : ChangeSpec := { name := "fnExactFreeCorners", fn := fun _ => fun
  | [d] => { results := [.lit (.bool true)], args := [d] }
  | _ => none }
def fnExactFreeCornersRow : OpenClaim := { program := "ytpaijobmoddgpaa", sum := "4fe6c9cae6e3ff6b5adc9677c39beb0b6b3ce2ed818e2a53038d62da936b8029", func := "loop.example/g01206/laws.FnExactFreeCorners", spec := "fnExactFreeCorners", plainKeys := false, apart := false }
def FnExactFreeCornersSaid : Prop := fnExactFreeCornersRow.holds Try.pinned (OpenSpec.ofChange fnExactFreeCornersSpec)

/-- ITS FALSE NEIGHBOUR: 'it returns false'. Refute it at one input. -/
def fnExactFreeCornersWrong : ChangeSpec := { name := "fnExactFreeCorners", fn := fun _ => fun
  | [d] => { results := [.lit (.bool false)], args := [d] }
  | _ => none }
def FnExactFreeCornersWrongFalsely : Prop := fnExactFreeCornersRow.holds Try.pinned (OpenSpec.ofChange fnExactFreeCornersWrong)

/-- 'laws.FnExactBoxOf': WHATEVER THE INPUT: true; the input reads as it did. -/
def fnExactBoxOfSpec : ChangeSpec := { name := "fnExactBoxOf", fn := fun _ => fun
  | [d] => { results := [.lit (.bool true)], args := [d] }
  | _ => none }
def fnExactBoxOfRow : OpenClaim := { program := "ytpaijobmoddgpaa", sum := "4fe6c9cae6e3ff6b5adc9677c39beb0b6b3ce2ed818e2a53038d62da936b8029", func := "loop.example/g01206/laws.FnExactBoxOf", spec := "fnExactBoxOf", plainKeys := false, apart := false }
def FnExactBoxOfSaid : Prop := fnExactBoxOfRow.holds Try.pinned (OpenSpec.ofChange fnExactBoxOfSpec)

/-- ITS FALSE NEIGHBOUR: 'it returns false'. Refute it at one input. -/
def fnExactBoxOfWrong : ChangeSpec := { name := "fnExactBoxOf", fn := fun _ => fun
  | [d] => { results := [.lit (.bool false)], args := [d] }
  | _ => none }
def FnExactBoxOfWrongFalsely : Prop := fnExactBoxOfRow.holds Try.pinned (OpenSpec.ofChange fnExactBoxOfWrong)

/-- 'laws.FnExactVisitsOf': WHATEVER THE INPUT: true; the input reads as it did. -/
def fnExactVisitsOfSpec : ChangeSpec := { name := "fnExactVisitsOf", fn := fun _ => fun
  | [d] => { results := [.lit (.bool true)], args := [d] }
  | _ => none }
def fnExactVisitsOfRow : OpenClaim := { program := "ytpaijobmoddgpaa", sum := "4fe6c9cae6e3ff6b5adc9677c39beb0b6b3ce2ed818e2a53038d62da936b8029", func := "loop.example/g01206/laws.FnExactVisitsOf", spec := "fnExactVisitsOf", unfollowed := true, recurses := true, plainKeys := false, apart := false }
def FnExactVisitsOfSaid : Prop := fnExactVisitsOfRow.holds Try.pinned (OpenSpec.ofChange fnExactVisitsOfSpec)

/-- ITS FALSE NEIGHBOUR: 'it returns false'. Refute it at one input. -/
def fnExactVisitsOfWrong : ChangeSpec := { name := "fnExactVisitsOf", fn := fun _ => fun
  | [d] => { results := [.lit (.bool false)], args := [d] }
  | _ => none }
def FnExactVisitsOfWrongFalsely : Prop := fnExactVisitsOfRow.holds Try.pinned (OpenSpec.ofChange fnExactVisitsOfWrong)

/-- 'laws.FnExactTurnsAround': WHATEVER THE INPUT: true; the input reads as it did. -/
def fnExactTurnsAroundSpec : ChangeSpec := { name := "fnExactTurnsAround", fn := fun _ => fun
  | [d1, d2] => { results := [.lit (.bool true)], args := [d1, d2] }
  | _ => none }
def fnExactTurnsAroundRow : OpenClaim := { program := "ytpaijobmoddgpaa", sum := "4fe6c9cae6e3ff6b5adc9677c39beb0b6b3ce2ed818e2a53038d62da936b8029", func := "loop.example/g01206/laws.FnExactTurnsAround", spec := "fnExactTurnsAround", plainKeys := false, apart := false }
def FnExactTurnsAroundSaid : Prop := fnExactTurnsAroundRow.holds Try.pinned (OpenSpec.ofChange fnExactTurnsAroundSpec)

/-- ITS FALSE NEIGHBOUR: 'it returns false'. Refute it at one input. -/
def fnExactTurnsAroundWrong : ChangeSpec := { name := "fnExactTurnsAround", fn := fun _ => fun
  | [d1, d2] => { results := [.lit (.bool false)], args := [d1, d2] }
  | _ => none }
def FnExactTurnsAroundWrongFalsely : Prop := fnExactTurnsAroundRow.holds Try.pinned (OpenSpec.ofChange fnExactTurnsAroundWrong)

/- THE SECOND FORM. 'bulk': how many values and letters a reading holds, each counted each time it is reached (what is shared counts as often as it is met; a slice's spare places count too). A statement '..UptoSaid' is the law's where the arguments, and the package variables that the reading takes, are together of bulk at most 1048576: NARROWER than '..Said'. Prove '..Said' where nothing that the law and all that it calls make is longer than what came in: it says more and counts as full. Else prove '..UptoSaid'. A law counts once. -/
mutual
def uptoBulk {H : Type} : DataW H → Nat
  | .lit (.string bytes) => bytes.length + 1
  | .lit _ => 1
  | .nil => 1
  | .ptr d => uptoBulk d + 1
  | .slice elems spare => uptoBulkAll elems + uptoBulkAll spare + 1
  | .agg parts => uptoBulkAll parts + 1
  | .iface _ d => uptoBulk d + 1
  | .map entries => uptoBulkEntries entries + 1
  | .held _ => 1
def uptoBulkAll {H : Type} : List (DataW H) → Nat
  | [] => 0
  | d :: r => uptoBulk d + uptoBulkAll r
def uptoBulkEntries {H : Type} : List (Lit × DataW H) → Nat
  | [] => 0
  | x :: r => uptoBulkEntry x + uptoBulkEntries r
def uptoBulkEntry {H : Type} : Lit × DataW H → Nat
  | (.string bytes, d) => bytes.length + uptoBulk d + 1
  | (_, d) => uptoBulk d + 1
 end
def uptoSmall : (H : Type) → List (DataW H) → Bool := fun _ ds => decide (uptoBulkAll ds ≤ 1048576)
def OpenSpec.upto (s : _root_.Go.ChangeSpec) : _root_.Go.OpenSpec := { _root_.Go.OpenSpec.ofChange s with cond := some uptoSmall }

/-- 'laws.FnExactIsPath', WHERE WHAT IT READS IS OF BULK AT MOST 1048576: true; the input reads as it did. -/
def fnExactIsPathUptoRow : OpenClaim := { program := "ytpaijobmoddgpaa", sum := "4fe6c9cae6e3ff6b5adc9677c39beb0b6b3ce2ed818e2a53038d62da936b8029", func := "loop.example/g01206/laws.FnExactIsPath", spec := "fnExactIsPath", plainKeys := false, apart := false, narrowed := true }
def FnExactIsPathUptoSaid : Prop := fnExactIsPathUptoRow.holds Try.pinned (OpenSpec.upto fnExactIsPathSpec)

/-- 'laws.FnExactEndOf', WHERE WHAT IT READS IS OF BULK AT MOST 1048576: true; the input reads as it did. -/
def fnExactEndOfUptoRow : OpenClaim := { program := "ytpaijobmoddgpaa", sum := "4fe6c9cae6e3ff6b5adc9677c39beb0b6b3ce2ed818e2a53038d62da936b8029", func := "loop.example/g01206/laws.FnExactEndOf", spec := "fnExactEndOf", plainKeys := false, apart := false, narrowed := true }
def FnExactEndOfUptoSaid : Prop := fnExactEndOfUptoRow.holds Try.pinned (OpenSpec.upto fnExactEndOfSpec)

/-- 'laws.FnExactIsClosed', WHERE WHAT IT READS IS OF BULK AT MOST 1048576: true; the input reads as it did. -/
def fnExactIsClosedUptoRow : OpenClaim := { program := "ytpaijobmoddgpaa", sum := "4fe6c9cae6e3ff6b5adc9677c39beb0b6b3ce2ed818e2a53038d62da936b8029", func := "loop.example/g01206/laws.FnExactIsClosed", spec := "fnExactIsClosed", plainKeys := false, apart := false, narrowed := true }
def FnExactIsClosedUptoSaid : Prop := fnExactIsClosedUptoRow.holds Try.pinned (OpenSpec.upto fnExactIsClosedSpec)

/-- 'laws.FnExactReadPath', WHERE WHAT IT READS IS OF BULK AT MOST 1048576: true; the input reads as it did. -/
def fnExactReadPathUptoRow : OpenClaim := { program := "ytpaijobmoddgpaa", sum := "4fe6c9cae6e3ff6b5adc9677c39beb0b6b3ce2ed818e2a53038d62da936b8029", func := "loop.example/g01206/laws.FnExactReadPath", spec := "fnExactReadPath", plainKeys := false, apart := false, narrowed := true }
def FnExactReadPathUptoSaid : Prop := fnExactReadPathUptoRow.holds Try.pinned (OpenSpec.upto fnExactReadPathSpec)

/-- 'laws.FnExactLoopPath', WHERE WHAT IT READS IS OF BULK AT MOST 1048576: true; the input reads as it did. -/
def fnExactLoopPathUptoRow : OpenClaim := { program := "ytpaijobmoddgpaa", sum := "4fe6c9cae6e3ff6b5adc9677c39beb0b6b3ce2ed818e2a53038d62da936b8029", func := "loop.example/g01206/laws.FnExactLoopPath", spec := "fnExactLoopPath", inPlace := ["internal/abi.NoEscape", "internal/bytealg.MakeNoZero"], plainKeys := false, apart := false, narrowed := true }
def FnExactLoopPathUptoSaid : Prop := fnExactLoopPathUptoRow.holds Try.pinned (OpenSpec.upto fnExactLoopPathSpec)

/-- 'laws.FnExactReversePath', WHERE WHAT IT READS IS OF BULK AT MOST 1048576: true; the input reads as it did. -/
def fnExactReversePathUptoRow : OpenClaim := { program := "ytpaijobmoddgpaa", sum := "4fe6c9cae6e3ff6b5adc9677c39beb0b6b3ce2ed818e2a53038d62da936b8029", func := "loop.example/g01206/laws.FnExactReversePath", spec := "fnExactReversePath", unfollowed := true, recurses := true, plainKeys := false, apart := false, narrowed := true }
def FnExactReversePathUptoSaid : Prop := fnExactReversePathUptoRow.holds Try.pinned (OpenSpec.upto fnExactReversePathSpec)

/-- 'laws.FnExactJoinPaths', WHERE WHAT IT READS IS OF BULK AT MOST 1048576: true; the input reads as it did. -/
def fnExactJoinPathsUptoRow : OpenClaim := { program := "ytpaijobmoddgpaa", sum := "4fe6c9cae6e3ff6b5adc9677c39beb0b6b3ce2ed818e2a53038d62da936b8029", func := "loop.example/g01206/laws.FnExactJoinPaths", spec := "fnExactJoinPaths", plainKeys := false, apart := false, narrowed := true }
def FnExactJoinPathsUptoSaid : Prop := fnExactJoinPathsUptoRow.holds Try.pinned (OpenSpec.upto fnExactJoinPathsSpec)

/-- 'laws.FnExactShrinkPath', WHERE WHAT IT READS IS OF BULK AT MOST 1048576: true; the input reads as it did. -/
def fnExactShrinkPathUptoRow : OpenClaim := { program := "ytpaijobmoddgpaa", sum := "4fe6c9cae6e3ff6b5adc9677c39beb0b6b3ce2ed818e2a53038d62da936b8029", func := "loop.example/g01206/laws.FnExactShrinkPath", spec := "fnExactShrinkPath", unfollowed := true, recurses := true, plainKeys := false, apart := false, narrowed := true }
def FnExactShrinkPathUptoSaid : Prop := fnExactShrinkPathUptoRow.holds Try.pinned (OpenSpec.upto fnExactShrinkPathSpec)

/-- 'laws.FnExactFlipPath', WHERE WHAT IT READS IS OF BULK AT MOST 1048576: true; the input reads as it did. -/
def fnExactFlipPathUptoRow : OpenClaim := { program := "ytpaijobmoddgpaa", sum := "4fe6c9cae6e3ff6b5adc9677c39beb0b6b3ce2ed818e2a53038d62da936b8029", func := "loop.example/g01206/laws.FnExactFlipPath", spec := "fnExactFlipPath", unfollowed := true, recurses := true, plainKeys := false, apart := false, narrowed := true }
def FnExactFlipPathUptoSaid : Prop := fnExactFlipPathUptoRow.holds Try.pinned (OpenSpec.upto fnExactFlipPathSpec)

/-- 'laws.FnExactPushCorner', WHERE WHAT IT READS IS OF BULK AT MOST 1048576: true; the input reads as it did. -/
def fnExactPushCornerUptoRow : OpenClaim := { program := "ytpaijobmoddgpaa", sum := "4fe6c9cae6e3ff6b5adc9677c39beb0b6b3ce2ed818e2a53038d62da936b8029", func := "loop.example/g01206/laws.FnExactPushCorner", spec := "fnExactPushCorner", plainKeys := false, apart := false, narrowed := true }
def FnExactPushCornerUptoSaid : Prop := fnExactPushCornerUptoRow.holds Try.pinned (OpenSpec.upto fnExactPushCornerSpec)

/-- 'laws.FnExactFreeCorners', WHERE WHAT IT READS IS OF BULK AT MOST 1048576: true; the input reads as it did. -/
def fnExactFreeCornersUptoRow : OpenClaim := { program := "ytpaijobmoddgpaa", sum := "4fe6c9cae6e3ff6b5adc9677c39beb0b6b3ce2ed818e2a53038d62da936b8029", func := "loop.example/g01206/laws.FnExactFreeCorners", spec := "fnExactFreeCorners", plainKeys := false, apart := false, narrowed := true }
def FnExactFreeCornersUptoSaid : Prop := fnExactFreeCornersUptoRow.holds Try.pinned (OpenSpec.upto fnExactFreeCornersSpec)

/-- 'laws.FnExactBoxOf', WHERE WHAT IT READS IS OF BULK AT MOST 1048576: true; the input reads as it did. -/
def fnExactBoxOfUptoRow : OpenClaim := { program := "ytpaijobmoddgpaa", sum := "4fe6c9cae6e3ff6b5adc9677c39beb0b6b3ce2ed818e2a53038d62da936b8029", func := "loop.example/g01206/laws.FnExactBoxOf", spec := "fnExactBoxOf", plainKeys := false, apart := false, narrowed := true }
def FnExactBoxOfUptoSaid : Prop := fnExactBoxOfUptoRow.holds Try.pinned (OpenSpec.upto fnExactBoxOfSpec)

/-- 'laws.FnExactVisitsOf', WHERE WHAT IT READS IS OF BULK AT MOST 1048576: true; the input reads as it did. -/
def fnExactVisitsOfUptoRow : OpenClaim := { program := "ytpaijobmoddgpaa", sum := "4fe6c9cae6e3ff6b5adc9677c39beb0b6b3ce2ed818e2a53038d62da936b8029", func := "loop.example/g01206/laws.FnExactVisitsOf", spec := "fnExactVisitsOf", unfollowed := true, recurses := true, plainKeys := false, apart := false, narrowed := true }
def FnExactVisitsOfUptoSaid : Prop := fnExactVisitsOfUptoRow.holds Try.pinned (OpenSpec.upto fnExactVisitsOfSpec)

/-- 'laws.FnExactTurnsAround', WHERE WHAT IT READS IS OF BULK AT MOST 1048576: true; the input reads as it did. -/
def fnExactTurnsAroundUptoRow : OpenClaim := { program := "ytpaijobmoddgpaa", sum := "4fe6c9cae6e3ff6b5adc9677c39beb0b6b3ce2ed818e2a53038d62da936b8029", func := "loop.example/g01206/laws.FnExactTurnsAround", spec := "fnExactTurnsAround", plainKeys := false, apart := false, narrowed := true }
def FnExactTurnsAroundUptoSaid : Prop := fnExactTurnsAroundUptoRow.holds Try.pinned (OpenSpec.upto fnExactTurnsAroundSpec)

end Rows
end Go.Proofs.Ytpaijobmoddgpaa
