/- Both programs' LongestGame, ShortestGame. Conditions: numbers of 64 bits, lengths that fit. -/
import Derived.Test.YtecbfndgdmpacaaGameLong
import Derived.Test.YtecbfndgdmpacaaGameLSpec
namespace Go.Proofs.Ytecbfndgdmpacaa
open Go.ChangeShapes Go.WideShapes Go.ChangeAt Go.RowKit
set_option linter.unusedVariables false

theorem long_len (xs : List Int) (n s : Int) : longW xs n s = lenW true xs n s ∧ shortW xs n s = lenW false xs n s := by
  unfold longW shortW lenW
  cases hg : gameB xs n s with
  | false =>
    simp only [Bool.false_eq_true, if_false]
    exact ⟨trivial, trivial⟩
  | true =>
    obtain ⟨g1, g2, g3, g4, g5, g6, g7, g8, g9⟩ := game_small hg
    have h := Plain.len_lead (falls_mono xs) g1 g8 6 s.toNat (Plain.cnt_le _ _) g2 (sub_small g6) 7 (by have := Plain.cnt_le (2 ^ n.toNat - 1) s.toNat; omega)
    have h0 : Plain.Hn (Plain.fallsB xs) (2 ^ n.toNat - 1) s.toNat 0 = Plain.fact (Plain.cnt (2 ^ n.toNat - 1) s.toNat) := by rw [Plain.Hn_zero g2 (sub_small g6), g9]; rfl
    simp only [if_true]
    rw [h.1, h.2, h0]
    exact ⟨Eq.refl _, Eq.refl _⟩
theorem bothLongestGame (xs : List Int) (h64 : Hid (In64 xs)) (hn : xs.length ≤ 1048576) (n : Int) (h1 : -9223372036854775808 ≤ n) (h2 : n ≤ 9223372036854775807) (s : Int) (h3 : -9223372036854775808 ≤ s) (h4 : s ≤ 9223372036854775807) : ∃ (v : Int) (c : Bool), 
    (∀ a cap w, Hid (Ints w a xs) → Calls Try.prog 31 #[.slice a xs.length cap, .int .i64 n, .int .i64 s] w (Val (.tuple #[.int .i64 v, .bool c]) w)) ∧
    (∀ a cap w, Hid (Ints w a xs) → Calls Try.prog 32 #[.slice a xs.length cap, .int .i64 n, .int .i64 s] w (Val (.tuple #[.int .i64 v, .bool c]) w)) :=
  ⟨_, _, fun a cap w h => specLongestGame_any a cap xs n s w h h64 (by omega) ⟨h1, h2⟩ ⟨h3, h4⟩, fun a cap w h => by rw [← (long_len xs n s).1]; exact implLongestGame_any a cap xs n s w h h64 (by omega) ⟨h3, h4⟩⟩
theorem bothShortestGame (xs : List Int) (h64 : Hid (In64 xs)) (hn : xs.length ≤ 1048576) (n : Int) (h1 : -9223372036854775808 ≤ n) (h2 : n ≤ 9223372036854775807) (s : Int) (h3 : -9223372036854775808 ≤ s) (h4 : s ≤ 9223372036854775807) : ∃ (v : Int) (c : Bool), 
    (∀ a cap w, Hid (Ints w a xs) → Calls Try.prog 33 #[.slice a xs.length cap, .int .i64 n, .int .i64 s] w (Val (.tuple #[.int .i64 v, .bool c]) w)) ∧
    (∀ a cap w, Hid (Ints w a xs) → Calls Try.prog 34 #[.slice a xs.length cap, .int .i64 n, .int .i64 s] w (Val (.tuple #[.int .i64 v, .bool c]) w)) :=
  ⟨_, _, fun a cap w h => specShortestGame_any a cap xs n s w h h64 (by omega) ⟨h1, h2⟩ ⟨h3, h4⟩, fun a cap w h => by rw [← (long_len xs n s).2]; exact implShortestGame_any a cap xs n s w h h64 (by omega) ⟨h3, h4⟩⟩

end Go.Proofs.Ytecbfndgdmpacaa
