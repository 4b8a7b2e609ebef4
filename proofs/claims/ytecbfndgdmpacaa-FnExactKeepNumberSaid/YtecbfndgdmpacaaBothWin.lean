/- Both programs' CanDrop, CanKeep, KeepNumber. Conditions: numbers of 64 bits, lengths that fit. -/
import Derived.Test.YtecbfndgdmpacaaGameNum
import Derived.Test.YtecbfndgdmpacaaGameTop
namespace Go.Proofs.Ytecbfndgdmpacaa
open Go.ChangeShapes Go.WideShapes Go.ChangeAt Go.RowKit
set_option linter.unusedVariables false

theorem can_win (xs : List Int) (n s : Int) (k : Bool) : canB xs n s k = winW k xs n s := by
  unfold canB winW
  cases hg : gameB xs n s with
  | false => rfl
  | true =>
    obtain ⟨g1, g2, g3, g4, g5, g6, g7, g8, g9⟩ := game_small hg
    rw [Plain.win_num _ _ k 6 _ (Plain.cnt_le _ _) g9]
    rfl
theorem bothCanDrop (xs : List Int) (h64 : Hid (In64 xs)) (hn : xs.length ≤ 1048576) (n : Int) (h1 : -9223372036854775808 ≤ n) (h2 : n ≤ 9223372036854775807) (s : Int) (h3 : -9223372036854775808 ≤ s) (h4 : s ≤ 9223372036854775807) : ∃ (b c : Bool), 
    (∀ a cap w, Hid (Ints w a xs) → Calls Try.prog 15 #[.slice a xs.length cap, .int .i64 n, .int .i64 s] w (Val (.tuple #[.bool b, .bool c]) w)) ∧
    (∀ a cap w, Hid (Ints w a xs) → Calls Try.prog 17 #[.slice a xs.length cap, .int .i64 n, .int .i64 s] w (Val (.tuple #[.bool b, .bool c]) w)) :=
  ⟨_, _, fun a cap w h => specCanDrop_any a cap xs n s w h h64 (by omega) ⟨h1, h2⟩ ⟨h3, h4⟩, fun a cap w h => by rw [← can_win]; exact implCanDrop_any a cap xs n s w h h64 (by omega) ⟨h3, h4⟩⟩
theorem bothCanKeep (xs : List Int) (h64 : Hid (In64 xs)) (hn : xs.length ≤ 1048576) (n : Int) (h1 : -9223372036854775808 ≤ n) (h2 : n ≤ 9223372036854775807) (s : Int) (h3 : -9223372036854775808 ≤ s) (h4 : s ≤ 9223372036854775807) : ∃ (b c : Bool), 
    (∀ a cap w, Hid (Ints w a xs) → Calls Try.prog 23 #[.slice a xs.length cap, .int .i64 n, .int .i64 s] w (Val (.tuple #[.bool b, .bool c]) w)) ∧
    (∀ a cap w, Hid (Ints w a xs) → Calls Try.prog 24 #[.slice a xs.length cap, .int .i64 n, .int .i64 s] w (Val (.tuple #[.bool b, .bool c]) w)) :=
  ⟨_, _, fun a cap w h => specCanKeep_any a cap xs n s w h h64 (by omega) ⟨h1, h2⟩ ⟨h3, h4⟩, fun a cap w h => by rw [← can_win]; exact implCanKeep_any a cap xs n s w h h64 (by omega) ⟨h3, h4⟩⟩
theorem bothKeepNumber (xs : List Int) (h64 : Hid (In64 xs)) (hn : xs.length ≤ 1048576) (n : Int) (h1 : -9223372036854775808 ≤ n) (h2 : n ≤ 9223372036854775807) (s : Int) (h3 : -9223372036854775808 ≤ s) (h4 : s ≤ 9223372036854775807) : ∃ (v : Int) (c : Bool), 
    (∀ a cap w, Hid (Ints w a xs) → Calls Try.prog 27 #[.slice a xs.length cap, .int .i64 n, .int .i64 s] w (Val (.tuple #[.int .i64 v, .bool c]) w)) ∧
    (∀ a cap w, Hid (Ints w a xs) → Calls Try.prog 28 #[.slice a xs.length cap, .int .i64 n, .int .i64 s] w (Val (.tuple #[.int .i64 v, .bool c]) w)) :=
  ⟨_, _, fun a cap w h => specKeepNumber_any a cap xs n s w h h64 (by omega) ⟨h1, h2⟩ ⟨h3, h4⟩, fun a cap w h => implKeepNumber_any a cap xs n s w h h64 (by omega) ⟨h3, h4⟩⟩

end Go.Proofs.Ytecbfndgdmpacaa
