/-
  No cell of these rows narrows 'for every input' (looked for: loops, veiled, ifaces, maps, wideKeys, modest, calm, conditions, laid).
  DERIVED. THE GIVEN ROWS OF THIS SEAT. 10 by the template 'for every input the law returns true; each argument reads behind the call as it read before'; 0 by the template 'total and deterministic' (their statements: YtkooibimeoojeaaTotals.lean).
  GIVEN WITH THE SEED: the statements are not yours to turn. If you find one false, say at which input.
  Laid BY PROGRAM, IN A SANDBOX (cutbox-rows.mjs): the forced cells as the released guide's own fill.sh prints them over the translation 7ca6329d88168354… (all of the seat's roots in one cut). By AI agents, Wed Nov 11 2026. No macro, syntax, notation, axiom, sorry.
-/
import Derived.Test.YtkooibimeoojeaaChecked
import GoSem.Claim
import GoSem.ClaimJoined
import GoSem.ClaimMapViews
import Derived.JoinedTies
import Derived.KernelRfl
namespace Go.Proofs.Ytkooibimeoojeaa
/- THE CELL 'sum', in the pinned program and in every row, IS THE sha256 OF THE DUMP (.gsa) THAT YtkooibimeoojeaaProg.lean LOADS. Nothing in Lean hashes anything: it is a label: what it is worth is what the hold of that sum in a sandbox is worth. -/
noncomputable def Try.pinned : Pinned := { name := "ytkooibimeoojeaa", sum := "7ca6329d88168354ce2d0484e93b23c65c0f72df91e59af709ad0b16255500b0", checked := Try.checked }
namespace Rows
def none {H : Type} : Left H := { results := [], args := [] }

/-- 'laws.FnExactFallTable': WHATEVER THE INPUT: true; the input reads as it did. -/
def fnExactFallTableSpec : ChangeSpec := { name := "fnExactFallTable", fn := fun _ => fun
  | [d] => { results := [.lit (.bool true)], args := [d] }
  | _ => none }
def fnExactFallTableRow : OpenClaim := { program := "ytkooibimeoojeaa", sum := "7ca6329d88168354ce2d0484e93b23c65c0f72df91e59af709ad0b16255500b0", func := "loop.example/g01206/laws.FnExactFallTable", spec := "fnExactFallTable", unfollowed := true, recurses := true, apart := false }
def FnExactFallTableSaid : Prop := fnExactFallTableRow.holds Try.pinned (OpenSpec.ofChange fnExactFallTableSpec)

/-- ITS FALSE NEIGHBOUR: 'it returns false'. Refute it at one input. -/
def fnExactFallTableWrong : ChangeSpec := { name := "fnExactFallTable", fn := fun _ => fun
  | [d] => { results := [.lit (.bool false)], args := [d] }
  | _ => none }
def FnExactFallTableWrongFalsely : Prop := fnExactFallTableRow.holds Try.pinned (OpenSpec.ofChange fnExactFallTableWrong)

/-- 'laws.FnExactLeastFalls': WHATEVER THE INPUT: true; the input reads as it did. -/
def fnExactLeastFallsSpec : ChangeSpec := { name := "fnExactLeastFalls", fn := fun _ => fun
  | [d] => { results := [.lit (.bool true)], args := [d] }
  | _ => none }
def fnExactLeastFallsRow : OpenClaim := { program := "ytkooibimeoojeaa", sum := "7ca6329d88168354ce2d0484e93b23c65c0f72df91e59af709ad0b16255500b0", func := "loop.example/g01206/laws.FnExactLeastFalls", spec := "fnExactLeastFalls", unfollowed := true, recurses := true, apart := false }
def FnExactLeastFallsSaid : Prop := fnExactLeastFallsRow.holds Try.pinned (OpenSpec.ofChange fnExactLeastFallsSpec)

/-- ITS FALSE NEIGHBOUR: 'it returns false'. Refute it at one input. -/
def fnExactLeastFallsWrong : ChangeSpec := { name := "fnExactLeastFalls", fn := fun _ => fun
  | [d] => { results := [.lit (.bool false)], args := [d] }
  | _ => none }
def FnExactLeastFallsWrongFalsely : Prop := fnExactLeastFallsRow.holds Try.pinned (OpenSpec.ofChange fnExactLeastFallsWrong)

/-- 'laws.FnExactFewestNails': WHATEVER THE INPUT: true; the input reads as it did. -/
def fnExactFewestNailsSpec : ChangeSpec := { name := "fnExactFewestNails", fn := fun _ => fun
  | [d] => { results := [.lit (.bool true)], args := [d] }
  | _ => none }
def fnExactFewestNailsRow : OpenClaim := { program := "ytkooibimeoojeaa", sum := "7ca6329d88168354ce2d0484e93b23c65c0f72df91e59af709ad0b16255500b0", func := "loop.example/g01206/laws.FnExactFewestNails", spec := "fnExactFewestNails", unfollowed := true, recurses := true, apart := false }
def FnExactFewestNailsSaid : Prop := fnExactFewestNailsRow.holds Try.pinned (OpenSpec.ofChange fnExactFewestNailsSpec)

/-- ITS FALSE NEIGHBOUR: 'it returns false'. Refute it at one input. -/
def fnExactFewestNailsWrong : ChangeSpec := { name := "fnExactFewestNails", fn := fun _ => fun
  | [d] => { results := [.lit (.bool false)], args := [d] }
  | _ => none }
def FnExactFewestNailsWrongFalsely : Prop := fnExactFewestNailsRow.holds Try.pinned (OpenSpec.ofChange fnExactFewestNailsWrong)

/-- 'laws.FnExactGreatestHangs': WHATEVER THE INPUT: true; the input reads as it did. -/
def fnExactGreatestHangsSpec : ChangeSpec := { name := "fnExactGreatestHangs", fn := fun _ => fun
  | [d] => { results := [.lit (.bool true)], args := [d] }
  | _ => none }
def fnExactGreatestHangsRow : OpenClaim := { program := "ytkooibimeoojeaa", sum := "7ca6329d88168354ce2d0484e93b23c65c0f72df91e59af709ad0b16255500b0", func := "loop.example/g01206/laws.FnExactGreatestHangs", spec := "fnExactGreatestHangs", unfollowed := true, recurses := true, apart := false }
def FnExactGreatestHangsSaid : Prop := fnExactGreatestHangsRow.holds Try.pinned (OpenSpec.ofChange fnExactGreatestHangsSpec)

/-- ITS FALSE NEIGHBOUR: 'it returns false'. Refute it at one input. -/
def fnExactGreatestHangsWrong : ChangeSpec := { name := "fnExactGreatestHangs", fn := fun _ => fun
  | [d] => { results := [.lit (.bool false)], args := [d] }
  | _ => none }
def FnExactGreatestHangsWrongFalsely : Prop := fnExactGreatestHangsRow.holds Try.pinned (OpenSpec.ofChange fnExactGreatestHangsWrong)

/-- 'laws.FnExactMatteringNails': WHATEVER THE INPUT: true; the input reads as it did. -/
def fnExactMatteringNailsSpec : ChangeSpec := { name := "fnExactMatteringNails", fn := fun _ => fun
  | [d] => { results := [.lit (.bool true)], args := [d] }
  | _ => none }
def fnExactMatteringNailsRow : OpenClaim := { program := "ytkooibimeoojeaa", sum := "7ca6329d88168354ce2d0484e93b23c65c0f72df91e59af709ad0b16255500b0", func := "loop.example/g01206/laws.FnExactMatteringNails", spec := "fnExactMatteringNails", unfollowed := true, recurses := true, apart := false }
def FnExactMatteringNailsSaid : Prop := fnExactMatteringNailsRow.holds Try.pinned (OpenSpec.ofChange fnExactMatteringNailsSpec)

/-- ITS FALSE NEIGHBOUR: 'it returns false'. Refute it at one input. -/
def fnExactMatteringNailsWrong : ChangeSpec := { name := "fnExactMatteringNails", fn := fun _ => fun
  | [d] => { results := [.lit (.bool false)], args := [d] }
  | _ => none }
def FnExactMatteringNailsWrongFalsely : Prop := fnExactMatteringNailsRow.holds Try.pinned (OpenSpec.ofChange fnExactMatteringNailsWrong)

/-- 'laws.FnExactHangsBy': WHATEVER THE INPUT: true; the input reads as it did. -/
def fnExactHangsBySpec : ChangeSpec := { name := "fnExactHangsBy", fn := fun _ => fun
  | [d1, d2] => { results := [.lit (.bool true)], args := [d1, d2] }
  | _ => none }
def fnExactHangsByRow : OpenClaim := { program := "ytkooibimeoojeaa", sum := "7ca6329d88168354ce2d0484e93b23c65c0f72df91e59af709ad0b16255500b0", func := "loop.example/g01206/laws.FnExactHangsBy", spec := "fnExactHangsBy", unfollowed := true, recurses := true, apart := false }
def FnExactHangsBySaid : Prop := fnExactHangsByRow.holds Try.pinned (OpenSpec.ofChange fnExactHangsBySpec)

/-- ITS FALSE NEIGHBOUR: 'it returns false'. Refute it at one input. -/
def fnExactHangsByWrong : ChangeSpec := { name := "fnExactHangsBy", fn := fun _ => fun
  | [d1, d2] => { results := [.lit (.bool false)], args := [d1, d2] }
  | _ => none }
def FnExactHangsByWrongFalsely : Prop := fnExactHangsByRow.holds Try.pinned (OpenSpec.ofChange fnExactHangsByWrong)

/-- 'laws.FnExactFallAlike': WHATEVER THE INPUT: true; the input reads as it did. -/
def fnExactFallAlikeSpec : ChangeSpec := { name := "fnExactFallAlike", fn := fun _ => fun
  | [d1, d2] => { results := [.lit (.bool true)], args := [d1, d2] }
  | _ => none }
def fnExactFallAlikeRow : OpenClaim := { program := "ytkooibimeoojeaa", sum := "7ca6329d88168354ce2d0484e93b23c65c0f72df91e59af709ad0b16255500b0", func := "loop.example/g01206/laws.FnExactFallAlike", spec := "fnExactFallAlike", unfollowed := true, recurses := true, apart := false }
def FnExactFallAlikeSaid : Prop := fnExactFallAlikeRow.holds Try.pinned (OpenSpec.ofChange fnExactFallAlikeSpec)

/-- ITS FALSE NEIGHBOUR: 'it returns false'. Refute it at one input. -/
def fnExactFallAlikeWrong : ChangeSpec := { name := "fnExactFallAlike", fn := fun _ => fun
  | [d1, d2] => { results := [.lit (.bool false)], args := [d1, d2] }
  | _ => none }
def FnExactFallAlikeWrongFalsely : Prop := fnExactFallAlikeRow.holds Try.pinned (OpenSpec.ofChange fnExactFallAlikeWrong)

/-- 'laws.FnExactHidesNail': WHATEVER THE INPUT: true; the input reads as it did. -/
def fnExactHidesNailSpec : ChangeSpec := { name := "fnExactHidesNail", fn := fun _ => fun
  | [d1, d2] => { results := [.lit (.bool true)], args := [d1, d2] }
  | _ => none }
def fnExactHidesNailRow : OpenClaim := { program := "ytkooibimeoojeaa", sum := "7ca6329d88168354ce2d0484e93b23c65c0f72df91e59af709ad0b16255500b0", func := "loop.example/g01206/laws.FnExactHidesNail", spec := "fnExactHidesNail", unfollowed := true, recurses := true, apart := false }
def FnExactHidesNailSaid : Prop := fnExactHidesNailRow.holds Try.pinned (OpenSpec.ofChange fnExactHidesNailSpec)

/-- ITS FALSE NEIGHBOUR: 'it returns false'. Refute it at one input. -/
def fnExactHidesNailWrong : ChangeSpec := { name := "fnExactHidesNail", fn := fun _ => fun
  | [d1, d2] => { results := [.lit (.bool false)], args := [d1, d2] }
  | _ => none }
def FnExactHidesNailWrongFalsely : Prop := fnExactHidesNailRow.holds Try.pinned (OpenSpec.ofChange fnExactHidesNailWrong)

/-- 'laws.FnExactFallOrder': WHATEVER THE INPUT: true; the input reads as it did. -/
def fnExactFallOrderSpec : ChangeSpec := { name := "fnExactFallOrder", fn := fun _ => fun
  | [d1, d2] => { results := [.lit (.bool true)], args := [d1, d2] }
  | _ => none }
def fnExactFallOrderRow : OpenClaim := { program := "ytkooibimeoojeaa", sum := "7ca6329d88168354ce2d0484e93b23c65c0f72df91e59af709ad0b16255500b0", func := "loop.example/g01206/laws.FnExactFallOrder", spec := "fnExactFallOrder", unfollowed := true, recurses := true, apart := false }
def FnExactFallOrderSaid : Prop := fnExactFallOrderRow.holds Try.pinned (OpenSpec.ofChange fnExactFallOrderSpec)

/-- ITS FALSE NEIGHBOUR: 'it returns false'. Refute it at one input. -/
def fnExactFallOrderWrong : ChangeSpec := { name := "fnExactFallOrder", fn := fun _ => fun
  | [d1, d2] => { results := [.lit (.bool false)], args := [d1, d2] }
  | _ => none }
def FnExactFallOrderWrongFalsely : Prop := fnExactFallOrderRow.holds Try.pinned (OpenSpec.ofChange fnExactFallOrderWrong)

/-- 'laws.FnExactFamilyOfWord': WHATEVER THE INPUT: true; the input reads as it did. -/
def fnExactFamilyOfWordSpec : ChangeSpec := { name := "fnExactFamilyOfWord", fn := fun _ => fun
  | [d] => { results := [.lit (.bool true)], args := [d] }
  | _ => none }
def fnExactFamilyOfWordRow : OpenClaim := { program := "ytkooibimeoojeaa", sum := "7ca6329d88168354ce2d0484e93b23c65c0f72df91e59af709ad0b16255500b0", func := "loop.example/g01206/laws.FnExactFamilyOfWord", spec := "fnExactFamilyOfWord", unfollowed := true, recurses := true, apart := false }
def FnExactFamilyOfWordSaid : Prop := fnExactFamilyOfWordRow.holds Try.pinned (OpenSpec.ofChange fnExactFamilyOfWordSpec)

/-- ITS FALSE NEIGHBOUR: 'it returns false'. Refute it at one input. -/
def fnExactFamilyOfWordWrong : ChangeSpec := { name := "fnExactFamilyOfWord", fn := fun _ => fun
  | [d] => { results := [.lit (.bool false)], args := [d] }
  | _ => none }
def FnExactFamilyOfWordWrongFalsely : Prop := fnExactFamilyOfWordRow.holds Try.pinned (OpenSpec.ofChange fnExactFamilyOfWordWrong)

/- THE SECOND FORM. 'bulk': how many values and letters a reading holds, each counted each time it is reached (what is shared counts as often as it is met; a slice's spare places count too). A statement '..UptoSaid' is the law's where the arguments, and the package variables that the reading takes, are together of bulk at most 1048576: NARROWER than '..Said'. Prove '..Said' where nothing that the law and all that it calls make is longer than what came in: it says more and counts as full. Else prove '..UptoSaid'. A law counts once. -/
mutual
def uptoBulk {H : Type} : DataW H → Nat
  | .lit (.string bytes) => bytes.length + 1
  | .lit _ => 1
  | .nil => 1
  | .ptr d => uptoBulk d + 1
  | .slice elems spare => uptoBulkAll elems + uptoBulkAll spare + 1
  | .agg parts => uptoBulkAll parts + 1
  | .iface _ d => uptoBulk d + 1
  | .map entries => uptoBulkEntries entries + 1
  | .held _ => 1
def uptoBulkAll {H : Type} : List (DataW H) → Nat
  | [] => 0
  | d :: r => uptoBulk d + uptoBulkAll r
def uptoBulkEntries {H : Type} : List (Lit × DataW H) → Nat
  | [] => 0
  | x :: r => uptoBulkEntry x + uptoBulkEntries r
def uptoBulkEntry {H : Type} : Lit × DataW H → Nat
  | (.string bytes, d) => bytes.length + uptoBulk d + 1
  | (_, d) => uptoBulk d + 1
 end
def uptoSmall : (H : Type) → List (DataW H) → Bool := fun _ ds => decide (uptoBulkAll ds ≤ 1048576)
def OpenSpec.upto (s : _root_.Go.ChangeSpec) : _root_.Go.OpenSpec := { _root_.Go.OpenSpec.ofChange s with cond := some uptoSmall }

/-- 'laws.FnExactFallTable', WHERE WHAT IT READS IS OF BULK AT MOST 1048576: true; the input reads as it did. -/
def fnExactFallTableUptoRow : OpenClaim := { program := "ytkooibimeoojeaa", sum := "7ca6329d88168354ce2d0484e93b23c65c0f72df91e59af709ad0b16255500b0", func := "loop.example/g01206/laws.FnExactFallTable", spec := "fnExactFallTable", unfollowed := true, recurses := true, apart := false, narrowed := true }
def FnExactFallTableUptoSaid : Prop := fnExactFallTableUptoRow.holds Try.pinned (OpenSpec.upto fnExactFallTableSpec)

/-- 'laws.FnExactLeastFalls', WHERE WHAT IT READS IS OF BULK AT MOST 1048576: true; the input reads as it did. -/
def fnExactLeastFallsUptoRow : OpenClaim := { program := "ytkooibimeoojeaa", sum := "7ca6329d88168354ce2d0484e93b23c65c0f72df91e59af709ad0b16255500b0", func := "loop.example/g01206/laws.FnExactLeastFalls", spec := "fnExactLeastFalls", unfollowed := true, recurses := true, apart := false, narrowed := true }
def FnExactLeastFallsUptoSaid : Prop := fnExactLeastFallsUptoRow.holds Try.pinned (OpenSpec.upto fnExactLeastFallsSpec)

/-- 'laws.FnExactFewestNails', WHERE WHAT IT READS IS OF BULK AT MOST 1048576: true; the input reads as it did. -/
def fnExactFewestNailsUptoRow : OpenClaim := { program := "ytkooibimeoojeaa", sum := "7ca6329d88168354ce2d0484e93b23c65c0f72df91e59af709ad0b16255500b0", func := "loop.example/g01206/laws.FnExactFewestNails", spec := "fnExactFewestNails", unfollowed := true, recurses := true, apart := false, narrowed := true }
def FnExactFewestNailsUptoSaid : Prop := fnExactFewestNailsUptoRow.holds Try.pinned (OpenSpec.upto fnExactFewestNailsSpec)

/-- 'laws.FnExactGreatestHangs', WHERE WHAT IT READS IS OF BULK AT MOST 1048576: true; the input reads as it did. -/
def fnExactGreatestHangsUptoRow : OpenClaim := { program := "ytkooibimeoojeaa", sum := "7ca6329d88168354ce2d0484e93b23c65c0f72df91e59af709ad0b16255500b0", func := "loop.example/g01206/laws.FnExactGreatestHangs", spec := "fnExactGreatestHangs", unfollowed := true, recurses := true, apart := false, narrowed := true }
def FnExactGreatestHangsUptoSaid : Prop := fnExactGreatestHangsUptoRow.holds Try.pinned (OpenSpec.upto fnExactGreatestHangsSpec)

/-- 'laws.FnExactMatteringNails', WHERE WHAT IT READS IS OF BULK AT MOST 1048576: true; the input reads as it did. -/
def fnExactMatteringNailsUptoRow : OpenClaim := { program := "ytkooibimeoojeaa", sum := "7ca6329d88168354ce2d0484e93b23c65c0f72df91e59af709ad0b16255500b0", func := "loop.example/g01206/laws.FnExactMatteringNails", spec := "fnExactMatteringNails", unfollowed := true, recurses := true, apart := false, narrowed := true }
def FnExactMatteringNailsUptoSaid : Prop := fnExactMatteringNailsUptoRow.holds Try.pinned (OpenSpec.upto fnExactMatteringNailsSpec)

/-- 'laws.FnExactHangsBy', WHERE WHAT IT READS IS OF BULK AT MOST 1048576: true; the input reads as it did. -/
def fnExactHangsByUptoRow : OpenClaim := { program := "ytkooibimeoojeaa", sum := "7ca6329d88168354ce2d0484e93b23c65c0f72df91e59af709ad0b16255500b0", func := "loop.example/g01206/laws.FnExactHangsBy", spec := "fnExactHangsBy", unfollowed := true, recurses := true, apart := false, narrowed := true }
def FnExactHangsByUptoSaid : Prop := fnExactHangsByUptoRow.holds Try.pinned (OpenSpec.upto fnExactHangsBySpec)

/-- 'laws.FnExactFallAlike', WHERE WHAT IT READS IS OF BULK AT MOST 1048576: true; the input reads as it did. -/
def fnExactFallAlikeUptoRow : OpenClaim := { program := "ytkooibimeoojeaa", sum := "7ca6329d88168354ce2d0484e93b23c65c0f72df91e59af709ad0b16255500b0", func := "loop.example/g01206/laws.FnExactFallAlike", spec := "fnExactFallAlike", unfollowed := true, recurses := true, apart := false, narrowed := true }
def FnExactFallAlikeUptoSaid : Prop := fnExactFallAlikeUptoRow.holds Try.pinned (OpenSpec.upto fnExactFallAlikeSpec)

/-- 'laws.FnExactHidesNail', WHERE WHAT IT READS IS OF BULK AT MOST 1048576: true; the input reads as it did. -/
def fnExactHidesNailUptoRow : OpenClaim := { program := "ytkooibimeoojeaa", sum := "7ca6329d88168354ce2d0484e93b23c65c0f72df91e59af709ad0b16255500b0", func := "loop.example/g01206/laws.FnExactHidesNail", spec := "fnExactHidesNail", unfollowed := true, recurses := true, apart := false, narrowed := true }
def FnExactHidesNailUptoSaid : Prop := fnExactHidesNailUptoRow.holds Try.pinned (OpenSpec.upto fnExactHidesNailSpec)

/-- 'laws.FnExactFallOrder', WHERE WHAT IT READS IS OF BULK AT MOST 1048576: true; the input reads as it did. -/
def fnExactFallOrderUptoRow : OpenClaim := { program := "ytkooibimeoojeaa", sum := "7ca6329d88168354ce2d0484e93b23c65c0f72df91e59af709ad0b16255500b0", func := "loop.example/g01206/laws.FnExactFallOrder", spec := "fnExactFallOrder", unfollowed := true, recurses := true, apart := false, narrowed := true }
def FnExactFallOrderUptoSaid : Prop := fnExactFallOrderUptoRow.holds Try.pinned (OpenSpec.upto fnExactFallOrderSpec)

/-- 'laws.FnExactFamilyOfWord', WHERE WHAT IT READS IS OF BULK AT MOST 1048576: true; the input reads as it did. -/
def fnExactFamilyOfWordUptoRow : OpenClaim := { program := "ytkooibimeoojeaa", sum := "7ca6329d88168354ce2d0484e93b23c65c0f72df91e59af709ad0b16255500b0", func := "loop.example/g01206/laws.FnExactFamilyOfWord", spec := "fnExactFamilyOfWord", unfollowed := true, recurses := true, apart := false, narrowed := true }
def FnExactFamilyOfWordUptoSaid : Prop := fnExactFamilyOfWordUptoRow.holds Try.pinned (OpenSpec.upto fnExactFamilyOfWordSpec)

end Rows
end Go.Proofs.Ytkooibimeoojeaa
