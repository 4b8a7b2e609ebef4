/- Both programs' DropMoves, KeepMoves. Conditions: numbers of 64 bits, lengths that fit. -/
import Derived.Test.YtecbfndgdmpacaaGameMoves
import Derived.Test.YtecbfndgdmpacaaGameSMov
namespace Go.Proofs.Ytecbfndgdmpacaa
open Go.ChangeShapes Go.WideShapes Go.ChangeAt Go.RowKit
set_option linter.unusedVariables false

theorem win_moves (k : Bool) (xs : List Int) (n s : Int) : winMW k xs n s = moveW k xs n s := by
  unfold winMW moveW
  cases hg : gameB xs n s with
  | false => rfl
  | true =>
    obtain ⟨g1, g2, g3, g4, g5, g6, g7, g8, g9⟩ := game_small hg
    rw [if_pos rfl, if_pos rfl]
    congr 1
    unfold winL Plain.movesG
    rw [g9]
    have hw : ∀ p, winB (Plain.fallsB xs) (2 ^ n.toNat - 1) k (s.toNat ||| 2 ^ p) = (!Plain.fallsB xs (s.toNat ||| 2 ^ p) && Plain.winV (Plain.fallsB xs) (2 ^ n.toNat - 1) k (s.toNat ||| 2 ^ p)) := fun p => by
      cases hf : Plain.fallsB xs (s.toNat ||| 2 ^ p) with
      | true => unfold winB; rw [Plain.num_fallen hf]; rfl
      | false => rw [Plain.win_num _ _ k 6 _ (Plain.cnt_le _ _) hf]; rfl
    cases k with
    | true =>
      simp only [Bool.false_eq_true, if_false, if_true]
      refine List.filter_congr fun p _ => ?_
      rw [hw]
      unfold moveF Plain.winV
      simp only [if_true, Bool.not_and, Bool.not_not]
    | false =>
      simp only [Bool.false_eq_true, if_false]
      rw [List.filter_filter]
      refine List.filter_congr fun p _ => ?_
      rw [hw]
      unfold moveF Plain.winV
      simp only [Bool.false_eq_true, if_false, Bool.not_and, Bool.not_not]
      cases Plain.fallsB xs (s.toNat ||| 2 ^ p) <;> simp
theorem bothDropMoves (xs : List Int) (h64 : Hid (In64 xs)) (hn : xs.length ≤ 1048576) (n : Int) (h1 : -9223372036854775808 ≤ n) (h2 : n ≤ 9223372036854775807) (s : Int) (h3 : -9223372036854775808 ≤ s) (h4 : s ≤ 9223372036854775807) : ∃ (out : List Int) (ok : Bool), out.length ≤ 1048576 ∧
    (∀ a cap w, Hid (Ints w a xs) → Calls Try.prog 19 #[.slice a xs.length cap, .int .i64 n, .int .i64 s] w (SB out ok w)) ∧
    (∀ a cap w, Hid (Ints w a xs) → Calls Try.prog 20 #[.slice a xs.length cap, .int .i64 n, .int .i64 s] w (SB out ok w)) :=
  ⟨_, _, moveW_le true xs n s, fun a cap w h => specDropMoves_any a cap xs n s w h h64 (by omega) ⟨h1, h2⟩ ⟨h3, h4⟩, fun a cap w h => by rw [← win_moves]; exact implDropMoves_any a cap xs n s w h h64 (by omega) ⟨h3, h4⟩⟩
theorem bothKeepMoves (xs : List Int) (h64 : Hid (In64 xs)) (hn : xs.length ≤ 1048576) (n : Int) (h1 : -9223372036854775808 ≤ n) (h2 : n ≤ 9223372036854775807) (s : Int) (h3 : -9223372036854775808 ≤ s) (h4 : s ≤ 9223372036854775807) : ∃ (out : List Int) (ok : Bool), out.length ≤ 1048576 ∧
    (∀ a cap w, Hid (Ints w a xs) → Calls Try.prog 25 #[.slice a xs.length cap, .int .i64 n, .int .i64 s] w (SB out ok w)) ∧
    (∀ a cap w, Hid (Ints w a xs) → Calls Try.prog 26 #[.slice a xs.length cap, .int .i64 n, .int .i64 s] w (SB out ok w)) :=
  ⟨_, _, moveW_le false xs n s, fun a cap w h => specKeepMoves_any a cap xs n s w h h64 (by omega) ⟨h1, h2⟩ ⟨h3, h4⟩, fun a cap w h => by rw [← win_moves]; exact implKeepMoves_any a cap xs n s w h h64 (by omega) ⟨h3, h4⟩⟩

end Go.Proofs.Ytecbfndgdmpacaa
