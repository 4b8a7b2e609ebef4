/- Both programs of stage 3 answer alike: the contracts of spec and impl side by side. Conditions: numbers of 64 bits, lengths that fit. -/
import Derived.Test.YtkooibimeoojeaaImpl3Walks
import Derived.Test.YtkooibimeoojeaaEq64
namespace Go.Proofs.Ytkooibimeoojeaa
open Go.ChangeShapes Go.WideShapes Go.ChangeAt Go.RowKit
set_option linter.unusedVariables false

theorem bothFallTable (xs : List Int) (h64 : Hid (In64 xs)) (hn : xs.length ≤ 1048576) : ∃ (t : Nat → Bool) (c : Bool), 
    (∀ a cap w, Hid (Ints w a xs) → Calls Try.prog 13 #[.slice a xs.length cap] w (Val (.tuple #[.agg (bools t), .bool c]) w)) ∧
    (∀ a cap w, Hid (Ints w a xs) → Calls Try.prog 15 #[.slice a xs.length cap] w (Val (.tuple #[.agg (bools t), .bool c]) w)) :=
  ⟨_, _, fun a cap w h => specFallTable_any a cap xs w h h64 (by omega), fun a cap w h => implFallTable_any a cap xs w h h64 (by omega)⟩
theorem bothLeastFalls (xs : List Int) (h64 : Hid (In64 xs)) (hn : xs.length ≤ 1048576) : ∃ (out : List Int) (ok : Bool), out.length ≤ 1048576 ∧
    (∀ a cap w, Hid (Ints w a xs) → Calls Try.prog 18 #[.slice a xs.length cap] w (SB out ok w)) ∧
    (∀ a cap w, Hid (Ints w a xs) → Calls Try.prog 19 #[.slice a xs.length cap] w (SB out ok w)) :=
  ⟨_, _, Nat.le_trans (edgesW_le xs true) (by omega), fun a cap w h => specLeastFalls_any a cap xs w h h64 (by omega), fun a cap w h => implLeastFalls_any a cap xs w h h64 (by omega)⟩
theorem bothFewestNails (xs : List Int) (h64 : Hid (In64 xs)) (hn : xs.length ≤ 1048576) : ∃ (m n : Int) (c : Bool), 
    (∀ a cap w, Hid (Ints w a xs) → Calls Try.prog 22 #[.slice a xs.length cap] w (Val (.tuple #[.int .i64 m, .int .i64 n, .bool c]) w)) ∧
    (∀ a cap w, Hid (Ints w a xs) → Calls Try.prog 23 #[.slice a xs.length cap] w (Val (.tuple #[.int .i64 m, .int .i64 n, .bool c]) w)) :=
  ⟨_, _, _, fun a cap w h => specFewest_any a cap xs w h h64 (by omega), fun a cap w h => implFewestNails_any a cap xs w h h64 (by omega)⟩
theorem bothGreatestHangs (xs : List Int) (h64 : Hid (In64 xs)) (hn : xs.length ≤ 1048576) : ∃ (out : List Int) (ok : Bool), out.length ≤ 1048576 ∧
    (∀ a cap w, Hid (Ints w a xs) → Calls Try.prog 24 #[.slice a xs.length cap] w (SB out ok w)) ∧
    (∀ a cap w, Hid (Ints w a xs) → Calls Try.prog 25 #[.slice a xs.length cap] w (SB out ok w)) :=
  ⟨_, _, Nat.le_trans (edgesW_le xs false) (by omega), fun a cap w h => specGreatestHangs_any a cap xs w h h64 (by omega), fun a cap w h => implGreatestHangs_any a cap xs w h h64 (by omega)⟩
theorem bothMatteringNails (xs : List Int) (h64 : Hid (In64 xs)) (hn : xs.length ≤ 1048576) : ∃ (m : Int) (c : Bool), 
    (∀ a cap w, Hid (Ints w a xs) → Calls Try.prog 26 #[.slice a xs.length cap] w (Val (.tuple #[.int .i64 m, .bool c]) w)) ∧
    (∀ a cap w, Hid (Ints w a xs) → Calls Try.prog 27 #[.slice a xs.length cap] w (Val (.tuple #[.int .i64 m, .bool c]) w)) :=
  ⟨_, _, fun a cap w h => specMattering_any a cap xs w h h64 (by omega), fun a cap w h => implMatteringNails_any a cap xs w h h64 (by omega)⟩
theorem bothHangsBy (xs : List Int) (h64 : Hid (In64 xs)) (hn : xs.length ≤ 1048576) (n : Int) (h1 : -9223372036854775808 ≤ n) (h2 : n ≤ 9223372036854775807) : ∃ (m : Int) (c : Bool), 
    (∀ a cap w, Hid (Ints w a xs) → Calls Try.prog 28 #[.slice a xs.length cap, .int .i64 n] w (Val (.tuple #[.int .i64 m, .bool c]) w)) ∧
    (∀ a cap w, Hid (Ints w a xs) → Calls Try.prog 29 #[.slice a xs.length cap, .int .i64 n] w (Val (.tuple #[.int .i64 m, .bool c]) w)) :=
  ⟨_, _, fun a cap w h => specHangsBy_any a cap xs n w h h64 (by omega) ⟨h1, h2⟩, fun a cap w h => implHangsBy_any a cap xs n w h h64 (by omega) ⟨h1, h2⟩⟩
theorem bothFallAlike (xs : List Int) (n1 : Hid (In64 xs)) (hx : xs.length ≤ 1048576) (ys : List Int) (n2 : Hid (In64 ys)) (hy : ys.length ≤ 1048576) : ∃ (b c : Bool), 
    (∀ a1 c1 a2 c2 w, Hid (Ints w a1 xs) → Hid (Ints w a2 ys) → Calls Try.prog 30 #[.slice a1 xs.length c1, .slice a2 ys.length c2] w (Val (.tuple #[.bool b, .bool c]) w)) ∧
    (∀ a1 c1 a2 c2 w, Hid (Ints w a1 xs) → Hid (Ints w a2 ys) → Calls Try.prog 31 #[.slice a1 xs.length c1, .slice a2 ys.length c2] w (Val (.tuple #[.bool b, .bool c]) w)) :=
  ⟨_, _, fun a1 c1 a2 c2 w h1 h2 => specAlike_any a1 a2 c1 c2 xs ys w h1 n1 h2 n2 (by omega) (by omega), fun a1 c1 a2 c2 w h1 h2 => implFallAlike_any a1 a2 c1 c2 xs ys w h1 n1 h2 n2 (by omega) (by omega)⟩
theorem bothHidesNail (xs : List Int) (h64 : Hid (In64 xs)) (hn : xs.length ≤ 1048576) (n : Int) (h1 : -9223372036854775808 ≤ n) (h2 : n ≤ 9223372036854775807) : ∃ (b c : Bool), 
    (∀ a cap w, Hid (Ints w a xs) → Calls Try.prog 32 #[.slice a xs.length cap, .int .i64 n] w (Val (.tuple #[.bool b, .bool c]) w)) ∧
    (∀ a cap w, Hid (Ints w a xs) → Calls Try.prog 33 #[.slice a xs.length cap, .int .i64 n] w (Val (.tuple #[.bool b, .bool c]) w)) :=
  ⟨_, _, fun a cap w h => specHides_any a cap xs n w h h64 (by omega) ⟨h1, h2⟩, fun a cap w h => implHidesNail_any a cap xs n w h h64 (by omega) ⟨h1, h2⟩⟩
theorem bothFallOrder (xs : List Int) (n1 : Hid (In64 xs)) (hx : xs.length ≤ 1048576) (ys : List Int) (n2 : Hid (In64 ys)) (hy : ys.length ≤ 1048576) : ∃ (m : Int) (c : Bool), 
    (∀ a1 c1 a2 c2 w, Hid (Ints w a1 xs) → Hid (Ints w a2 ys) → Calls Try.prog 34 #[.slice a1 xs.length c1, .slice a2 ys.length c2] w (Val (.tuple #[.int .i64 m, .bool c]) w)) ∧
    (∀ a1 c1 a2 c2 w, Hid (Ints w a1 xs) → Hid (Ints w a2 ys) → Calls Try.prog 35 #[.slice a1 xs.length c1, .slice a2 ys.length c2] w (Val (.tuple #[.int .i64 m, .bool c]) w)) :=
  ⟨_, _, fun a1 c1 a2 c2 w h1 h2 => specOrder_any a1 a2 c1 c2 xs ys w h1 n1 h2 n2 (by omega) (by omega), fun a1 c1 a2 c2 w h1 h2 => implFallOrder_any a1 a2 c1 c2 xs ys w h1 n1 h2 n2 (by omega) (by omega)⟩

end Go.Proofs.Ytkooibimeoojeaa
