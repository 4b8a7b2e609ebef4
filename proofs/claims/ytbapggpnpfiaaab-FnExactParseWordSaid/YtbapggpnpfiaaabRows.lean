/-
  No cell of these rows narrows 'for every input' (looked for: loops, veiled, ifaces, maps, wideKeys, modest, calm, conditions, laid).
  DERIVED. THE GIVEN ROWS OF THIS SEAT. 6 by the template 'for every input the law returns true; each argument reads behind the call as it read before'; 0 by the template 'total and deterministic' (their statements: YtbapggpnpfiaaabTotals.lean).
  GIVEN WITH THE SEED: the statements are not yours to turn. If you find one false, say at which input.
  Laid BY PROGRAM, IN A SANDBOX (cutbox-rows.mjs): the forced cells as the released guide's own fill.sh prints them over the translation 4ca1e759ba6a838b… (all of the seat's roots in one cut). By AI agents, Wed Nov 11 2026. No macro, syntax, notation, axiom, sorry.
-/
import Derived.Test.YtbapggpnpfiaaabChecked
import GoSem.Claim
import GoSem.ClaimJoined
import GoSem.ClaimMapViews
import Derived.JoinedTies
import Derived.KernelRfl
namespace Go.Proofs.Ytbapggpnpfiaaab
/- THE CELL 'sum', in the pinned program and in every row, IS THE sha256 OF THE DUMP (.gsa) THAT YtbapggpnpfiaaabProg.lean LOADS. Nothing in Lean hashes anything: it is a label: what it is worth is what the hold of that sum in a sandbox is worth. -/
noncomputable def Try.pinned : Pinned := { name := "ytbapggpnpfiaaab", sum := "4ca1e759ba6a838bf3fdf09feebb6fb4547b27b68ea0c6d2eccd1bff4b265541", checked := Try.checked }
namespace Rows
def none {H : Type} : Left H := { results := [], args := [] }

/-- 'laws.FnExactAreConjugate': WHATEVER THE INPUT: true; the input reads as it did. -/
def fnExactAreConjugateSpec : ChangeSpec := { name := "fnExactAreConjugate", fn := fun _ => fun
  | [d1, d2] => { results := [.lit (.bool true)], args := [d1, d2] }
  | _ => none }
def fnExactAreConjugateRow : OpenClaim := { program := "ytbapggpnpfiaaab", sum := "4ca1e759ba6a838bf3fdf09feebb6fb4547b27b68ea0c6d2eccd1bff4b265541", func := "loop.example/g01206/laws.FnExactAreConjugate", spec := "fnExactAreConjugate", unfollowed := true, recurses := true, apart := false }
def FnExactAreConjugateSaid : Prop := fnExactAreConjugateRow.holds Try.pinned (OpenSpec.ofChange fnExactAreConjugateSpec)

/-- ITS FALSE NEIGHBOUR: 'it returns false'. Refute it at one input. -/
def fnExactAreConjugateWrong : ChangeSpec := { name := "fnExactAreConjugate", fn := fun _ => fun
  | [d1, d2] => { results := [.lit (.bool false)], args := [d1, d2] }
  | _ => none }
def FnExactAreConjugateWrongFalsely : Prop := fnExactAreConjugateRow.holds Try.pinned (OpenSpec.ofChange fnExactAreConjugateWrong)

/-- 'laws.FnExactNailsOf': WHATEVER THE INPUT: true; the input reads as it did. -/
def fnExactNailsOfSpec : ChangeSpec := { name := "fnExactNailsOf", fn := fun _ => fun
  | [d] => { results := [.lit (.bool true)], args := [d] }
  | _ => none }
def fnExactNailsOfRow : OpenClaim := { program := "ytbapggpnpfiaaab", sum := "4ca1e759ba6a838bf3fdf09feebb6fb4547b27b68ea0c6d2eccd1bff4b265541", func := "loop.example/g01206/laws.FnExactNailsOf", spec := "fnExactNailsOf", apart := false }
def FnExactNailsOfSaid : Prop := fnExactNailsOfRow.holds Try.pinned (OpenSpec.ofChange fnExactNailsOfSpec)

/-- ITS FALSE NEIGHBOUR: 'it returns false'. Refute it at one input. -/
def fnExactNailsOfWrong : ChangeSpec := { name := "fnExactNailsOf", fn := fun _ => fun
  | [d] => { results := [.lit (.bool false)], args := [d] }
  | _ => none }
def FnExactNailsOfWrongFalsely : Prop := fnExactNailsOfRow.holds Try.pinned (OpenSpec.ofChange fnExactNailsOfWrong)

/-- 'laws.FnExactCountLetters': WHATEVER THE INPUT: true; the input reads as it did. -/
def fnExactCountLettersSpec : ChangeSpec := { name := "fnExactCountLetters", fn := fun _ => fun
  | [d] => { results := [.lit (.bool true)], args := [d] }
  | _ => none }
def fnExactCountLettersRow : OpenClaim := { program := "ytbapggpnpfiaaab", sum := "4ca1e759ba6a838bf3fdf09feebb6fb4547b27b68ea0c6d2eccd1bff4b265541", func := "loop.example/g01206/laws.FnExactCountLetters", spec := "fnExactCountLetters", apart := false }
def FnExactCountLettersSaid : Prop := fnExactCountLettersRow.holds Try.pinned (OpenSpec.ofChange fnExactCountLettersSpec)

/-- ITS FALSE NEIGHBOUR: 'it returns false'. Refute it at one input. -/
def fnExactCountLettersWrong : ChangeSpec := { name := "fnExactCountLetters", fn := fun _ => fun
  | [d] => { results := [.lit (.bool false)], args := [d] }
  | _ => none }
def FnExactCountLettersWrongFalsely : Prop := fnExactCountLettersRow.holds Try.pinned (OpenSpec.ofChange fnExactCountLettersWrong)

/-- 'laws.FnExactLessWord': WHATEVER THE INPUT: true; the input reads as it did. -/
def fnExactLessWordSpec : ChangeSpec := { name := "fnExactLessWord", fn := fun _ => fun
  | [d1, d2] => { results := [.lit (.bool true)], args := [d1, d2] }
  | _ => none }
def fnExactLessWordRow : OpenClaim := { program := "ytbapggpnpfiaaab", sum := "4ca1e759ba6a838bf3fdf09feebb6fb4547b27b68ea0c6d2eccd1bff4b265541", func := "loop.example/g01206/laws.FnExactLessWord", spec := "fnExactLessWord", unfollowed := true, recurses := true, apart := false }
def FnExactLessWordSaid : Prop := fnExactLessWordRow.holds Try.pinned (OpenSpec.ofChange fnExactLessWordSpec)

/-- ITS FALSE NEIGHBOUR: 'it returns false'. Refute it at one input. -/
def fnExactLessWordWrong : ChangeSpec := { name := "fnExactLessWord", fn := fun _ => fun
  | [d1, d2] => { results := [.lit (.bool false)], args := [d1, d2] }
  | _ => none }
def FnExactLessWordWrongFalsely : Prop := fnExactLessWordRow.holds Try.pinned (OpenSpec.ofChange fnExactLessWordWrong)

/-- 'laws.FnExactWordText': WHATEVER THE INPUT: true; the input reads as it did. -/
def fnExactWordTextSpec : ChangeSpec := { name := "fnExactWordText", fn := fun _ => fun
  | [d] => { results := [.lit (.bool true)], args := [d] }
  | _ => none }
def fnExactWordTextRow : OpenClaim := { program := "ytbapggpnpfiaaab", sum := "4ca1e759ba6a838bf3fdf09feebb6fb4547b27b68ea0c6d2eccd1bff4b265541", func := "loop.example/g01206/laws.FnExactWordText", spec := "fnExactWordText", inPlace := ["internal/abi.NoEscape"], apart := false }
def FnExactWordTextSaid : Prop := fnExactWordTextRow.holds Try.pinned (OpenSpec.ofChange fnExactWordTextSpec)

/-- ITS FALSE NEIGHBOUR: 'it returns false'. Refute it at one input. -/
def fnExactWordTextWrong : ChangeSpec := { name := "fnExactWordText", fn := fun _ => fun
  | [d] => { results := [.lit (.bool false)], args := [d] }
  | _ => none }
def FnExactWordTextWrongFalsely : Prop := fnExactWordTextRow.holds Try.pinned (OpenSpec.ofChange fnExactWordTextWrong)

/-- 'laws.FnExactParseWord': WHATEVER THE INPUT: true; the input reads as it did. -/
def fnExactParseWordSpec : ChangeSpec := { name := "fnExactParseWord", fn := fun _ => fun
  | [d] => { results := [.lit (.bool true)], args := [d] }
  | _ => none }
def fnExactParseWordRow : OpenClaim := { program := "ytbapggpnpfiaaab", sum := "4ca1e759ba6a838bf3fdf09feebb6fb4547b27b68ea0c6d2eccd1bff4b265541", func := "loop.example/g01206/laws.FnExactParseWord", spec := "fnExactParseWord", apart := false }
def FnExactParseWordSaid : Prop := fnExactParseWordRow.holds Try.pinned (OpenSpec.ofChange fnExactParseWordSpec)

/-- ITS FALSE NEIGHBOUR: 'it returns false'. Refute it at one input. -/
def fnExactParseWordWrong : ChangeSpec := { name := "fnExactParseWord", fn := fun _ => fun
  | [d] => { results := [.lit (.bool false)], args := [d] }
  | _ => none }
def FnExactParseWordWrongFalsely : Prop := fnExactParseWordRow.holds Try.pinned (OpenSpec.ofChange fnExactParseWordWrong)

/- THE SECOND FORM. 'bulk': how many values and letters a reading holds, each counted each time it is reached (what is shared counts as often as it is met; a slice's spare places count too). A statement '..UptoSaid' is the law's where the arguments, and the package variables that the reading takes, are together of bulk at most 1048576: NARROWER than '..Said'. Prove '..Said' where nothing that the law and all that it calls make is longer than what came in: it says more and counts as full. Else prove '..UptoSaid'. A law counts once. -/
mutual
def uptoBulk {H : Type} : DataW H → Nat
  | .lit (.string bytes) => bytes.length + 1
  | .lit _ => 1
  | .nil => 1
  | .ptr d => uptoBulk d + 1
  | .slice elems spare => uptoBulkAll elems + uptoBulkAll spare + 1
  | .agg parts => uptoBulkAll parts + 1
  | .iface _ d => uptoBulk d + 1
  | .map entries => uptoBulkEntries entries + 1
  | .held _ => 1
def uptoBulkAll {H : Type} : List (DataW H) → Nat
  | [] => 0
  | d :: r => uptoBulk d + uptoBulkAll r
def uptoBulkEntries {H : Type} : List (Lit × DataW H) → Nat
  | [] => 0
  | x :: r => uptoBulkEntry x + uptoBulkEntries r
def uptoBulkEntry {H : Type} : Lit × DataW H → Nat
  | (.string bytes, d) => bytes.length + uptoBulk d + 1
  | (_, d) => uptoBulk d + 1
 end
def uptoSmall : (H : Type) → List (DataW H) → Bool := fun _ ds => decide (uptoBulkAll ds ≤ 1048576)
def OpenSpec.upto (s : _root_.Go.ChangeSpec) : _root_.Go.OpenSpec := { _root_.Go.OpenSpec.ofChange s with cond := some uptoSmall }

/-- 'laws.FnExactAreConjugate', WHERE WHAT IT READS IS OF BULK AT MOST 1048576: true; the input reads as it did. -/
def fnExactAreConjugateUptoRow : OpenClaim := { program := "ytbapggpnpfiaaab", sum := "4ca1e759ba6a838bf3fdf09feebb6fb4547b27b68ea0c6d2eccd1bff4b265541", func := "loop.example/g01206/laws.FnExactAreConjugate", spec := "fnExactAreConjugate", unfollowed := true, recurses := true, apart := false, narrowed := true }
def FnExactAreConjugateUptoSaid : Prop := fnExactAreConjugateUptoRow.holds Try.pinned (OpenSpec.upto fnExactAreConjugateSpec)

/-- 'laws.FnExactNailsOf', WHERE WHAT IT READS IS OF BULK AT MOST 1048576: true; the input reads as it did. -/
def fnExactNailsOfUptoRow : OpenClaim := { program := "ytbapggpnpfiaaab", sum := "4ca1e759ba6a838bf3fdf09feebb6fb4547b27b68ea0c6d2eccd1bff4b265541", func := "loop.example/g01206/laws.FnExactNailsOf", spec := "fnExactNailsOf", apart := false, narrowed := true }
def FnExactNailsOfUptoSaid : Prop := fnExactNailsOfUptoRow.holds Try.pinned (OpenSpec.upto fnExactNailsOfSpec)

/-- 'laws.FnExactCountLetters', WHERE WHAT IT READS IS OF BULK AT MOST 1048576: true; the input reads as it did. -/
def fnExactCountLettersUptoRow : OpenClaim := { program := "ytbapggpnpfiaaab", sum := "4ca1e759ba6a838bf3fdf09feebb6fb4547b27b68ea0c6d2eccd1bff4b265541", func := "loop.example/g01206/laws.FnExactCountLetters", spec := "fnExactCountLetters", apart := false, narrowed := true }
def FnExactCountLettersUptoSaid : Prop := fnExactCountLettersUptoRow.holds Try.pinned (OpenSpec.upto fnExactCountLettersSpec)

/-- 'laws.FnExactLessWord', WHERE WHAT IT READS IS OF BULK AT MOST 1048576: true; the input reads as it did. -/
def fnExactLessWordUptoRow : OpenClaim := { program := "ytbapggpnpfiaaab", sum := "4ca1e759ba6a838bf3fdf09feebb6fb4547b27b68ea0c6d2eccd1bff4b265541", func := "loop.example/g01206/laws.FnExactLessWord", spec := "fnExactLessWord", unfollowed := true, recurses := true, apart := false, narrowed := true }
def FnExactLessWordUptoSaid : Prop := fnExactLessWordUptoRow.holds Try.pinned (OpenSpec.upto fnExactLessWordSpec)

/-- 'laws.FnExactWordText', WHERE WHAT IT READS IS OF BULK AT MOST 1048576: true; the input reads as it did. -/
def fnExactWordTextUptoRow : OpenClaim := { program := "ytbapggpnpfiaaab", sum := "4ca1e759ba6a838bf3fdf09feebb6fb4547b27b68ea0c6d2eccd1bff4b265541", func := "loop.example/g01206/laws.FnExactWordText", spec := "fnExactWordText", inPlace := ["internal/abi.NoEscape"], apart := false, narrowed := true }
def FnExactWordTextUptoSaid : Prop := fnExactWordTextUptoRow.holds Try.pinned (OpenSpec.upto fnExactWordTextSpec)

/-- 'laws.FnExactParseWord', WHERE WHAT IT READS IS OF BULK AT MOST 1048576: true; the input reads as it did. -/
def fnExactParseWordUptoRow : OpenClaim := { program := "ytbapggpnpfiaaab", sum := "4ca1e759ba6a838bf3fdf09feebb6fb4547b27b68ea0c6d2eccd1bff4b265541", func := "loop.example/g01206/laws.FnExactParseWord", spec := "fnExactParseWord", apart := false, narrowed := true }
def FnExactParseWordUptoSaid : Prop := fnExactParseWordUptoRow.holds Try.pinned (OpenSpec.upto fnExactParseWordSpec)

end Rows
end Go.Proofs.Ytbapggpnpfiaaab
