/-
  No cell of these rows narrows 'for every input' (looked for: loops, veiled, ifaces, maps, wideKeys, modest, calm, conditions, laid).
  DERIVED. THE GIVEN ROWS OF THIS SEAT. 12 by the template 'for every input the law returns true; each argument reads behind the call as it read before'; 0 by the template 'total and deterministic' (their statements: YtcmabcdgdfibjaaTotals.lean).
  GIVEN WITH THE SEED: the statements are not yours to turn. If you find one false, say at which input.
  Laid BY PROGRAM, IN A SANDBOX (cutbox-rows.mjs): the forced cells as the released guide's own fill.sh prints them over the translation 05863ff270f6458a… (all of the seat's roots in one cut). By AI agents, Wed Nov 11 2026. No macro, syntax, notation, axiom, sorry.
-/
import Derived.Test.YtcmabcdgdfibjaaChecked
import GoSem.Claim
import GoSem.ClaimJoined
import GoSem.ClaimMapViews
import Derived.JoinedTies
import Derived.KernelRfl
namespace Go.Proofs.Ytcmabcdgdfibjaa
/- THE CELL 'sum', in the pinned program and in every row, IS THE sha256 OF THE DUMP (.gsa) THAT YtcmabcdgdfibjaaProg.lean LOADS. Nothing in Lean hashes anything: it is a label: what it is worth is what the hold of that sum in a sandbox is worth. -/
noncomputable def Try.pinned : Pinned := { name := "ytcmabcdgdfibjaa", sum := "05863ff270f6458afaf97447b99d31b9c4b6618d6f20c3dcf01d3823823e073f", checked := Try.checked }
namespace Rows
def none {H : Type} : Left H := { results := [], args := [] }

/-- 'laws.FnExactIsFamily': WHATEVER THE INPUT: true; the input reads as it did. -/
def fnExactIsFamilySpec : ChangeSpec := { name := "fnExactIsFamily", fn := fun _ => fun
  | [d] => { results := [.lit (.bool true)], args := [d] }
  | _ => none }
def fnExactIsFamilyRow : OpenClaim := { program := "ytcmabcdgdfibjaa", sum := "05863ff270f6458afaf97447b99d31b9c4b6618d6f20c3dcf01d3823823e073f", func := "loop.example/g01206/laws.FnExactIsFamily", spec := "fnExactIsFamily", unfollowed := true, recurses := true, apart := false }
def FnExactIsFamilySaid : Prop := fnExactIsFamilyRow.holds Try.pinned (OpenSpec.ofChange fnExactIsFamilySpec)

/-- ITS FALSE NEIGHBOUR: 'it returns false'. Refute it at one input. -/
def fnExactIsFamilyWrong : ChangeSpec := { name := "fnExactIsFamily", fn := fun _ => fun
  | [d] => { results := [.lit (.bool false)], args := [d] }
  | _ => none }
def FnExactIsFamilyWrongFalsely : Prop := fnExactIsFamilyRow.holds Try.pinned (OpenSpec.ofChange fnExactIsFamilyWrong)

/-- 'laws.FnExactHasMember': WHATEVER THE INPUT: true; the input reads as it did. -/
def fnExactHasMemberSpec : ChangeSpec := { name := "fnExactHasMember", fn := fun _ => fun
  | [d1, d2] => { results := [.lit (.bool true)], args := [d1, d2] }
  | _ => none }
def fnExactHasMemberRow : OpenClaim := { program := "ytcmabcdgdfibjaa", sum := "05863ff270f6458afaf97447b99d31b9c4b6618d6f20c3dcf01d3823823e073f", func := "loop.example/g01206/laws.FnExactHasMember", spec := "fnExactHasMember", unfollowed := true, recurses := true, apart := false }
def FnExactHasMemberSaid : Prop := fnExactHasMemberRow.holds Try.pinned (OpenSpec.ofChange fnExactHasMemberSpec)

/-- ITS FALSE NEIGHBOUR: 'it returns false'. Refute it at one input. -/
def fnExactHasMemberWrong : ChangeSpec := { name := "fnExactHasMember", fn := fun _ => fun
  | [d1, d2] => { results := [.lit (.bool false)], args := [d1, d2] }
  | _ => none }
def FnExactHasMemberWrongFalsely : Prop := fnExactHasMemberRow.holds Try.pinned (OpenSpec.ofChange fnExactHasMemberWrong)

/-- 'laws.FnExactFamilyOf': WHATEVER THE INPUT: true; the input reads as it did. -/
def fnExactFamilyOfSpec : ChangeSpec := { name := "fnExactFamilyOf", fn := fun _ => fun
  | [d] => { results := [.lit (.bool true)], args := [d] }
  | _ => none }
def fnExactFamilyOfRow : OpenClaim := { program := "ytcmabcdgdfibjaa", sum := "05863ff270f6458afaf97447b99d31b9c4b6618d6f20c3dcf01d3823823e073f", func := "loop.example/g01206/laws.FnExactFamilyOf", spec := "fnExactFamilyOf", unfollowed := true, recurses := true, apart := false }
def FnExactFamilyOfSaid : Prop := fnExactFamilyOfRow.holds Try.pinned (OpenSpec.ofChange fnExactFamilyOfSpec)

/-- ITS FALSE NEIGHBOUR: 'it returns false'. Refute it at one input. -/
def fnExactFamilyOfWrong : ChangeSpec := { name := "fnExactFamilyOf", fn := fun _ => fun
  | [d] => { results := [.lit (.bool false)], args := [d] }
  | _ => none }
def FnExactFamilyOfWrongFalsely : Prop := fnExactFamilyOfRow.holds Try.pinned (OpenSpec.ofChange fnExactFamilyOfWrong)

/-- 'laws.FnExactAndFamily': WHATEVER THE INPUT: true; the input reads as it did. -/
def fnExactAndFamilySpec : ChangeSpec := { name := "fnExactAndFamily", fn := fun _ => fun
  | [d1, d2] => { results := [.lit (.bool true)], args := [d1, d2] }
  | _ => none }
def fnExactAndFamilyRow : OpenClaim := { program := "ytcmabcdgdfibjaa", sum := "05863ff270f6458afaf97447b99d31b9c4b6618d6f20c3dcf01d3823823e073f", func := "loop.example/g01206/laws.FnExactAndFamily", spec := "fnExactAndFamily", unfollowed := true, recurses := true, apart := false }
def FnExactAndFamilySaid : Prop := fnExactAndFamilyRow.holds Try.pinned (OpenSpec.ofChange fnExactAndFamilySpec)

/-- ITS FALSE NEIGHBOUR: 'it returns false'. Refute it at one input. -/
def fnExactAndFamilyWrong : ChangeSpec := { name := "fnExactAndFamily", fn := fun _ => fun
  | [d1, d2] => { results := [.lit (.bool false)], args := [d1, d2] }
  | _ => none }
def FnExactAndFamilyWrongFalsely : Prop := fnExactAndFamilyRow.holds Try.pinned (OpenSpec.ofChange fnExactAndFamilyWrong)

/-- 'laws.FnExactOrFamily': WHATEVER THE INPUT: true; the input reads as it did. -/
def fnExactOrFamilySpec : ChangeSpec := { name := "fnExactOrFamily", fn := fun _ => fun
  | [d1, d2] => { results := [.lit (.bool true)], args := [d1, d2] }
  | _ => none }
def fnExactOrFamilyRow : OpenClaim := { program := "ytcmabcdgdfibjaa", sum := "05863ff270f6458afaf97447b99d31b9c4b6618d6f20c3dcf01d3823823e073f", func := "loop.example/g01206/laws.FnExactOrFamily", spec := "fnExactOrFamily", unfollowed := true, recurses := true, apart := false }
def FnExactOrFamilySaid : Prop := fnExactOrFamilyRow.holds Try.pinned (OpenSpec.ofChange fnExactOrFamilySpec)

/-- ITS FALSE NEIGHBOUR: 'it returns false'. Refute it at one input. -/
def fnExactOrFamilyWrong : ChangeSpec := { name := "fnExactOrFamily", fn := fun _ => fun
  | [d1, d2] => { results := [.lit (.bool false)], args := [d1, d2] }
  | _ => none }
def FnExactOrFamilyWrongFalsely : Prop := fnExactOrFamilyRow.holds Try.pinned (OpenSpec.ofChange fnExactOrFamilyWrong)

/-- 'laws.FnExactDualFamily': WHATEVER THE INPUT: true; the input reads as it did. -/
def fnExactDualFamilySpec : ChangeSpec := { name := "fnExactDualFamily", fn := fun _ => fun
  | [d1, d2] => { results := [.lit (.bool true)], args := [d1, d2] }
  | _ => none }
def fnExactDualFamilyRow : OpenClaim := { program := "ytcmabcdgdfibjaa", sum := "05863ff270f6458afaf97447b99d31b9c4b6618d6f20c3dcf01d3823823e073f", func := "loop.example/g01206/laws.FnExactDualFamily", spec := "fnExactDualFamily", unfollowed := true, recurses := true, apart := false }
def FnExactDualFamilySaid : Prop := fnExactDualFamilyRow.holds Try.pinned (OpenSpec.ofChange fnExactDualFamilySpec)

/-- ITS FALSE NEIGHBOUR: 'it returns false'. Refute it at one input. -/
def fnExactDualFamilyWrong : ChangeSpec := { name := "fnExactDualFamily", fn := fun _ => fun
  | [d1, d2] => { results := [.lit (.bool false)], args := [d1, d2] }
  | _ => none }
def FnExactDualFamilyWrongFalsely : Prop := fnExactDualFamilyRow.holds Try.pinned (OpenSpec.ofChange fnExactDualFamilyWrong)

/-- 'laws.FnExactThresholdFamily': WHATEVER THE INPUT: true; the input reads as it did. -/
def fnExactThresholdFamilySpec : ChangeSpec := { name := "fnExactThresholdFamily", fn := fun _ => fun
  | [d1, d2] => { results := [.lit (.bool true)], args := [d1, d2] }
  | _ => none }
def fnExactThresholdFamilyRow : OpenClaim := { program := "ytcmabcdgdfibjaa", sum := "05863ff270f6458afaf97447b99d31b9c4b6618d6f20c3dcf01d3823823e073f", func := "loop.example/g01206/laws.FnExactThresholdFamily", spec := "fnExactThresholdFamily", unfollowed := true, recurses := true, apart := false }
def FnExactThresholdFamilySaid : Prop := fnExactThresholdFamilyRow.holds Try.pinned (OpenSpec.ofChange fnExactThresholdFamilySpec)

/-- ITS FALSE NEIGHBOUR: 'it returns false'. Refute it at one input. -/
def fnExactThresholdFamilyWrong : ChangeSpec := { name := "fnExactThresholdFamily", fn := fun _ => fun
  | [d1, d2] => { results := [.lit (.bool false)], args := [d1, d2] }
  | _ => none }
def FnExactThresholdFamilyWrongFalsely : Prop := fnExactThresholdFamilyRow.holds Try.pinned (OpenSpec.ofChange fnExactThresholdFamilyWrong)

/-- 'laws.FnExactWeightFamily': WHATEVER THE INPUT: true; the input reads as it did. -/
def fnExactWeightFamilySpec : ChangeSpec := { name := "fnExactWeightFamily", fn := fun _ => fun
  | [d1, d2] => { results := [.lit (.bool true)], args := [d1, d2] }
  | _ => none }
def fnExactWeightFamilyRow : OpenClaim := { program := "ytcmabcdgdfibjaa", sum := "05863ff270f6458afaf97447b99d31b9c4b6618d6f20c3dcf01d3823823e073f", func := "loop.example/g01206/laws.FnExactWeightFamily", spec := "fnExactWeightFamily", unfollowed := true, recurses := true, apart := false }
def FnExactWeightFamilySaid : Prop := fnExactWeightFamilyRow.holds Try.pinned (OpenSpec.ofChange fnExactWeightFamilySpec)

/-- ITS FALSE NEIGHBOUR: 'it returns false'. Refute it at one input. -/
def fnExactWeightFamilyWrong : ChangeSpec := { name := "fnExactWeightFamily", fn := fun _ => fun
  | [d1, d2] => { results := [.lit (.bool false)], args := [d1, d2] }
  | _ => none }
def FnExactWeightFamilyWrongFalsely : Prop := fnExactWeightFamilyRow.holds Try.pinned (OpenSpec.ofChange fnExactWeightFamilyWrong)

/-- 'laws.FnExactOutFamily': WHATEVER THE INPUT: true; the input reads as it did. -/
def fnExactOutFamilySpec : ChangeSpec := { name := "fnExactOutFamily", fn := fun _ => fun
  | [d1, d2] => { results := [.lit (.bool true)], args := [d1, d2] }
  | _ => none }
def fnExactOutFamilyRow : OpenClaim := { program := "ytcmabcdgdfibjaa", sum := "05863ff270f6458afaf97447b99d31b9c4b6618d6f20c3dcf01d3823823e073f", func := "loop.example/g01206/laws.FnExactOutFamily", spec := "fnExactOutFamily", unfollowed := true, recurses := true, apart := false }
def FnExactOutFamilySaid : Prop := fnExactOutFamilyRow.holds Try.pinned (OpenSpec.ofChange fnExactOutFamilySpec)

/-- ITS FALSE NEIGHBOUR: 'it returns false'. Refute it at one input. -/
def fnExactOutFamilyWrong : ChangeSpec := { name := "fnExactOutFamily", fn := fun _ => fun
  | [d1, d2] => { results := [.lit (.bool false)], args := [d1, d2] }
  | _ => none }
def FnExactOutFamilyWrongFalsely : Prop := fnExactOutFamilyRow.holds Try.pinned (OpenSpec.ofChange fnExactOutFamilyWrong)

/-- 'laws.FnExactFixFamily': WHATEVER THE INPUT: true; the input reads as it did. -/
def fnExactFixFamilySpec : ChangeSpec := { name := "fnExactFixFamily", fn := fun _ => fun
  | [d1, d2] => { results := [.lit (.bool true)], args := [d1, d2] }
  | _ => none }
def fnExactFixFamilyRow : OpenClaim := { program := "ytcmabcdgdfibjaa", sum := "05863ff270f6458afaf97447b99d31b9c4b6618d6f20c3dcf01d3823823e073f", func := "loop.example/g01206/laws.FnExactFixFamily", spec := "fnExactFixFamily", unfollowed := true, recurses := true, apart := false }
def FnExactFixFamilySaid : Prop := fnExactFixFamilyRow.holds Try.pinned (OpenSpec.ofChange fnExactFixFamilySpec)

/-- ITS FALSE NEIGHBOUR: 'it returns false'. Refute it at one input. -/
def fnExactFixFamilyWrong : ChangeSpec := { name := "fnExactFixFamily", fn := fun _ => fun
  | [d1, d2] => { results := [.lit (.bool false)], args := [d1, d2] }
  | _ => none }
def FnExactFixFamilyWrongFalsely : Prop := fnExactFixFamilyRow.holds Try.pinned (OpenSpec.ofChange fnExactFixFamilyWrong)

/-- 'laws.FnExactCountMembers': WHATEVER THE INPUT: true; the input reads as it did. -/
def fnExactCountMembersSpec : ChangeSpec := { name := "fnExactCountMembers", fn := fun _ => fun
  | [d1, d2] => { results := [.lit (.bool true)], args := [d1, d2] }
  | _ => none }
def fnExactCountMembersRow : OpenClaim := { program := "ytcmabcdgdfibjaa", sum := "05863ff270f6458afaf97447b99d31b9c4b6618d6f20c3dcf01d3823823e073f", func := "loop.example/g01206/laws.FnExactCountMembers", spec := "fnExactCountMembers", unfollowed := true, recurses := true, apart := false }
def FnExactCountMembersSaid : Prop := fnExactCountMembersRow.holds Try.pinned (OpenSpec.ofChange fnExactCountMembersSpec)

/-- ITS FALSE NEIGHBOUR: 'it returns false'. Refute it at one input. -/
def fnExactCountMembersWrong : ChangeSpec := { name := "fnExactCountMembers", fn := fun _ => fun
  | [d1, d2] => { results := [.lit (.bool false)], args := [d1, d2] }
  | _ => none }
def FnExactCountMembersWrongFalsely : Prop := fnExactCountMembersRow.holds Try.pinned (OpenSpec.ofChange fnExactCountMembersWrong)

/-- 'laws.FnExactPivotCounts': WHATEVER THE INPUT: true; the input reads as it did. -/
def fnExactPivotCountsSpec : ChangeSpec := { name := "fnExactPivotCounts", fn := fun _ => fun
  | [d] => { results := [.lit (.bool true)], args := [d] }
  | _ => none }
def fnExactPivotCountsRow : OpenClaim := { program := "ytcmabcdgdfibjaa", sum := "05863ff270f6458afaf97447b99d31b9c4b6618d6f20c3dcf01d3823823e073f", func := "loop.example/g01206/laws.FnExactPivotCounts", spec := "fnExactPivotCounts", unfollowed := true, recurses := true, apart := false }
def FnExactPivotCountsSaid : Prop := fnExactPivotCountsRow.holds Try.pinned (OpenSpec.ofChange fnExactPivotCountsSpec)

/-- ITS FALSE NEIGHBOUR: 'it returns false'. Refute it at one input. -/
def fnExactPivotCountsWrong : ChangeSpec := { name := "fnExactPivotCounts", fn := fun _ => fun
  | [d] => { results := [.lit (.bool false)], args := [d] }
  | _ => none }
def FnExactPivotCountsWrongFalsely : Prop := fnExactPivotCountsRow.holds Try.pinned (OpenSpec.ofChange fnExactPivotCountsWrong)

/- THE SECOND FORM. 'bulk': how many values and letters a reading holds, each counted each time it is reached (what is shared counts as often as it is met; a slice's spare places count too). A statement '..UptoSaid' is the law's where the arguments, and the package variables that the reading takes, are together of bulk at most 1048576: NARROWER than '..Said'. Prove '..Said' where nothing that the law and all that it calls make is longer than what came in: it says more and counts as full. Else prove '..UptoSaid'. A law counts once. -/
mutual
def uptoBulk {H : Type} : DataW H → Nat
  | .lit (.string bytes) => bytes.length + 1
  | .lit _ => 1
  | .nil => 1
  | .ptr d => uptoBulk d + 1
  | .slice elems spare => uptoBulkAll elems + uptoBulkAll spare + 1
  | .agg parts => uptoBulkAll parts + 1
  | .iface _ d => uptoBulk d + 1
  | .map entries => uptoBulkEntries entries + 1
  | .held _ => 1
def uptoBulkAll {H : Type} : List (DataW H) → Nat
  | [] => 0
  | d :: r => uptoBulk d + uptoBulkAll r
def uptoBulkEntries {H : Type} : List (Lit × DataW H) → Nat
  | [] => 0
  | x :: r => uptoBulkEntry x + uptoBulkEntries r
def uptoBulkEntry {H : Type} : Lit × DataW H → Nat
  | (.string bytes, d) => bytes.length + uptoBulk d + 1
  | (_, d) => uptoBulk d + 1
 end
def uptoSmall : (H : Type) → List (DataW H) → Bool := fun _ ds => decide (uptoBulkAll ds ≤ 1048576)
def OpenSpec.upto (s : _root_.Go.ChangeSpec) : _root_.Go.OpenSpec := { _root_.Go.OpenSpec.ofChange s with cond := some uptoSmall }

/-- 'laws.FnExactIsFamily', WHERE WHAT IT READS IS OF BULK AT MOST 1048576: true; the input reads as it did. -/
def fnExactIsFamilyUptoRow : OpenClaim := { program := "ytcmabcdgdfibjaa", sum := "05863ff270f6458afaf97447b99d31b9c4b6618d6f20c3dcf01d3823823e073f", func := "loop.example/g01206/laws.FnExactIsFamily", spec := "fnExactIsFamily", unfollowed := true, recurses := true, apart := false, narrowed := true }
def FnExactIsFamilyUptoSaid : Prop := fnExactIsFamilyUptoRow.holds Try.pinned (OpenSpec.upto fnExactIsFamilySpec)

/-- 'laws.FnExactHasMember', WHERE WHAT IT READS IS OF BULK AT MOST 1048576: true; the input reads as it did. -/
def fnExactHasMemberUptoRow : OpenClaim := { program := "ytcmabcdgdfibjaa", sum := "05863ff270f6458afaf97447b99d31b9c4b6618d6f20c3dcf01d3823823e073f", func := "loop.example/g01206/laws.FnExactHasMember", spec := "fnExactHasMember", unfollowed := true, recurses := true, apart := false, narrowed := true }
def FnExactHasMemberUptoSaid : Prop := fnExactHasMemberUptoRow.holds Try.pinned (OpenSpec.upto fnExactHasMemberSpec)

/-- 'laws.FnExactFamilyOf', WHERE WHAT IT READS IS OF BULK AT MOST 1048576: true; the input reads as it did. -/
def fnExactFamilyOfUptoRow : OpenClaim := { program := "ytcmabcdgdfibjaa", sum := "05863ff270f6458afaf97447b99d31b9c4b6618d6f20c3dcf01d3823823e073f", func := "loop.example/g01206/laws.FnExactFamilyOf", spec := "fnExactFamilyOf", unfollowed := true, recurses := true, apart := false, narrowed := true }
def FnExactFamilyOfUptoSaid : Prop := fnExactFamilyOfUptoRow.holds Try.pinned (OpenSpec.upto fnExactFamilyOfSpec)

/-- 'laws.FnExactAndFamily', WHERE WHAT IT READS IS OF BULK AT MOST 1048576: true; the input reads as it did. -/
def fnExactAndFamilyUptoRow : OpenClaim := { program := "ytcmabcdgdfibjaa", sum := "05863ff270f6458afaf97447b99d31b9c4b6618d6f20c3dcf01d3823823e073f", func := "loop.example/g01206/laws.FnExactAndFamily", spec := "fnExactAndFamily", unfollowed := true, recurses := true, apart := false, narrowed := true }
def FnExactAndFamilyUptoSaid : Prop := fnExactAndFamilyUptoRow.holds Try.pinned (OpenSpec.upto fnExactAndFamilySpec)

/-- 'laws.FnExactOrFamily', WHERE WHAT IT READS IS OF BULK AT MOST 1048576: true; the input reads as it did. -/
def fnExactOrFamilyUptoRow : OpenClaim := { program := "ytcmabcdgdfibjaa", sum := "05863ff270f6458afaf97447b99d31b9c4b6618d6f20c3dcf01d3823823e073f", func := "loop.example/g01206/laws.FnExactOrFamily", spec := "fnExactOrFamily", unfollowed := true, recurses := true, apart := false, narrowed := true }
def FnExactOrFamilyUptoSaid : Prop := fnExactOrFamilyUptoRow.holds Try.pinned (OpenSpec.upto fnExactOrFamilySpec)

/-- 'laws.FnExactDualFamily', WHERE WHAT IT READS IS OF BULK AT MOST 1048576: true; the input reads as it did. -/
def fnExactDualFamilyUptoRow : OpenClaim := { program := "ytcmabcdgdfibjaa", sum := "05863ff270f6458afaf97447b99d31b9c4b6618d6f20c3dcf01d3823823e073f", func := "loop.example/g01206/laws.FnExactDualFamily", spec := "fnExactDualFamily", unfollowed := true, recurses := true, apart := false, narrowed := true }
def FnExactDualFamilyUptoSaid : Prop := fnExactDualFamilyUptoRow.holds Try.pinned (OpenSpec.upto fnExactDualFamilySpec)

/-- 'laws.FnExactThresholdFamily', WHERE WHAT IT READS IS OF BULK AT MOST 1048576: true; the input reads as it did. -/
def fnExactThresholdFamilyUptoRow : OpenClaim := { program := "ytcmabcdgdfibjaa", sum := "05863ff270f6458afaf97447b99d31b9c4b6618d6f20c3dcf01d3823823e073f", func := "loop.example/g01206/laws.FnExactThresholdFamily", spec := "fnExactThresholdFamily", unfollowed := true, recurses := true, apart := false, narrowed := true }
def FnExactThresholdFamilyUptoSaid : Prop := fnExactThresholdFamilyUptoRow.holds Try.pinned (OpenSpec.upto fnExactThresholdFamilySpec)

/-- 'laws.FnExactWeightFamily', WHERE WHAT IT READS IS OF BULK AT MOST 1048576: true; the input reads as it did. -/
def fnExactWeightFamilyUptoRow : OpenClaim := { program := "ytcmabcdgdfibjaa", sum := "05863ff270f6458afaf97447b99d31b9c4b6618d6f20c3dcf01d3823823e073f", func := "loop.example/g01206/laws.FnExactWeightFamily", spec := "fnExactWeightFamily", unfollowed := true, recurses := true, apart := false, narrowed := true }
def FnExactWeightFamilyUptoSaid : Prop := fnExactWeightFamilyUptoRow.holds Try.pinned (OpenSpec.upto fnExactWeightFamilySpec)

/-- 'laws.FnExactOutFamily', WHERE WHAT IT READS IS OF BULK AT MOST 1048576: true; the input reads as it did. -/
def fnExactOutFamilyUptoRow : OpenClaim := { program := "ytcmabcdgdfibjaa", sum := "05863ff270f6458afaf97447b99d31b9c4b6618d6f20c3dcf01d3823823e073f", func := "loop.example/g01206/laws.FnExactOutFamily", spec := "fnExactOutFamily", unfollowed := true, recurses := true, apart := false, narrowed := true }
def FnExactOutFamilyUptoSaid : Prop := fnExactOutFamilyUptoRow.holds Try.pinned (OpenSpec.upto fnExactOutFamilySpec)

/-- 'laws.FnExactFixFamily', WHERE WHAT IT READS IS OF BULK AT MOST 1048576: true; the input reads as it did. -/
def fnExactFixFamilyUptoRow : OpenClaim := { program := "ytcmabcdgdfibjaa", sum := "05863ff270f6458afaf97447b99d31b9c4b6618d6f20c3dcf01d3823823e073f", func := "loop.example/g01206/laws.FnExactFixFamily", spec := "fnExactFixFamily", unfollowed := true, recurses := true, apart := false, narrowed := true }
def FnExactFixFamilyUptoSaid : Prop := fnExactFixFamilyUptoRow.holds Try.pinned (OpenSpec.upto fnExactFixFamilySpec)

/-- 'laws.FnExactCountMembers', WHERE WHAT IT READS IS OF BULK AT MOST 1048576: true; the input reads as it did. -/
def fnExactCountMembersUptoRow : OpenClaim := { program := "ytcmabcdgdfibjaa", sum := "05863ff270f6458afaf97447b99d31b9c4b6618d6f20c3dcf01d3823823e073f", func := "loop.example/g01206/laws.FnExactCountMembers", spec := "fnExactCountMembers", unfollowed := true, recurses := true, apart := false, narrowed := true }
def FnExactCountMembersUptoSaid : Prop := fnExactCountMembersUptoRow.holds Try.pinned (OpenSpec.upto fnExactCountMembersSpec)

/-- 'laws.FnExactPivotCounts', WHERE WHAT IT READS IS OF BULK AT MOST 1048576: true; the input reads as it did. -/
def fnExactPivotCountsUptoRow : OpenClaim := { program := "ytcmabcdgdfibjaa", sum := "05863ff270f6458afaf97447b99d31b9c4b6618d6f20c3dcf01d3823823e073f", func := "loop.example/g01206/laws.FnExactPivotCounts", spec := "fnExactPivotCounts", unfollowed := true, recurses := true, apart := false, narrowed := true }
def FnExactPivotCountsUptoSaid : Prop := fnExactPivotCountsUptoRow.holds Try.pinned (OpenSpec.upto fnExactPivotCountsSpec)

end Rows
end Go.Proofs.Ytcmabcdgdfibjaa
