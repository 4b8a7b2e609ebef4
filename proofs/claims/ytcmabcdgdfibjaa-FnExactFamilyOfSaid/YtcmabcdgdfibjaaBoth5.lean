/- Both programs of stage 5 answer alike: the contracts of spec and impl side by side (first part). Conditions: numbers of 64 bits, lengths that fit. -/
import Derived.Test.YtcmabcdgdfibjaaFamMore
namespace Go.Proofs.Ytcmabcdgdfibjaa
open Go.ChangeShapes Go.WideShapes Go.ChangeAt Go.RowKit
set_option linter.unusedVariables false

theorem bothIsFamily (xs : List Int) (h64 : Hid (In64 xs)) (hn : xs.length ≤ 1048576) : ∃ (b : Bool),
    (∀ a cap w, Hid (Ints w a xs) → Calls Try.prog 16 #[.agg #[.slice a xs.length cap]] w (Val (.bool b) w)) ∧
    (∀ a cap w, Hid (Ints w a xs) → Calls Try.prog 18 #[.agg #[.slice a xs.length cap]] w (Val (.bool b) w)) :=
  ⟨_, fun a cap w h => specIsFamily_any a cap xs w h h64 hn, fun a cap w h => implIsFamily_any a cap xs w h h64 hn⟩
theorem bothHasMember (xs : List Int) (h64 : Hid (In64 xs)) (hn : xs.length ≤ 1048576) (n : Int) (h1 : -9223372036854775808 ≤ n) (h2 : n ≤ 9223372036854775807) : ∃ (b c : Bool),
    (∀ a cap w, Hid (Ints w a xs) → Calls Try.prog 20 #[.agg #[.slice a xs.length cap], .int .i64 n] w (Val (.tuple #[.bool b, .bool c]) w)) ∧
    (∀ a cap w, Hid (Ints w a xs) → Calls Try.prog 21 #[.agg #[.slice a xs.length cap], .int .i64 n] w (Val (.tuple #[.bool b, .bool c]) w)) :=
  ⟨_, _, fun a cap w h => specHasMember_any a cap xs n w h h64 hn ⟨h1, h2⟩, fun a cap w h => implHasMember_any a cap xs n w h h64 hn ⟨h1, h2⟩⟩
theorem bothFamilyOf (xs : List Int) (h64 : Hid (In64 xs)) (hn : xs.length ≤ 1048576) : ∃ (out : List Int) (ok : Bool), out.length ≤ 1048576 ∧
    (∀ a cap w, Hid (Ints w a xs) → Calls Try.prog 22 #[.slice a xs.length cap] w (FB out ok w)) ∧
    (∀ a cap w, Hid (Ints w a xs) → Calls Try.prog 24 #[.slice a xs.length cap] w (FB out ok w)) :=
  ⟨_, _, Nat.le_trans (ofW_le xs) (by decide), fun a cap w h => specFamilyOf_any a cap xs w h h64 hn, fun a cap w h => implFamilyOf_any a cap xs w h h64 hn⟩

end Go.Proofs.Ytcmabcdgdfibjaa
