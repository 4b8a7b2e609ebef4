/- Both programs' SafeNails. Conditions: numbers of 64 bits, lengths that fit. -/
import Derived.Test.YtecbfndgdmpacaaGameSpec
namespace Go.Proofs.Ytecbfndgdmpacaa
open Go.ChangeShapes Go.WideShapes Go.ChangeAt Go.RowKit
set_option linter.unusedVariables false

theorem safeW_le (xs : List Int) (n s : Int) : (safeW xs n s).length ≤ 1048576 := by
  unfold safeW
  split
  · rw [nailZ_le]; have := moves_le (Plain.fallsB xs) (2 ^ n.toNat - 1) false s.toNat; omega
  · exact Nat.zero_le _
theorem bothSafeNails (xs : List Int) (h64 : Hid (In64 xs)) (hn : xs.length ≤ 1048576) (n : Int) (h1 : -9223372036854775808 ≤ n) (h2 : n ≤ 9223372036854775807) (s : Int) (h3 : -9223372036854775808 ≤ s) (h4 : s ≤ 9223372036854775807) : ∃ (out : List Int) (ok : Bool), out.length ≤ 1048576 ∧
    (∀ a cap w, Hid (Ints w a xs) → Calls Try.prog 29 #[.slice a xs.length cap, .int .i64 n, .int .i64 s] w (SB out ok w)) ∧
    (∀ a cap w, Hid (Ints w a xs) → Calls Try.prog 30 #[.slice a xs.length cap, .int .i64 n, .int .i64 s] w (SB out ok w)) :=
  ⟨_, _, safeW_le xs n s, fun a cap w h => specSafeNails_any a cap xs n s w h h64 (by omega) ⟨h1, h2⟩ ⟨h3, h4⟩, fun a cap w h => implSafeNails_any a cap xs n s w h h64 (by omega) ⟨h3, h4⟩⟩

end Go.Proofs.Ytecbfndgdmpacaa
