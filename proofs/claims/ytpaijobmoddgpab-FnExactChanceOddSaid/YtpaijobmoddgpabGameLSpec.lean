/- Contracts: spec.l9Length, LongestGame, ShortestGame. Conditions: numbers of 64 bits, lengths that fit. -/
import Derived.Test.YtpaijobmoddgpabGameWins
import Derived.Test.YtpaijobmoddgpabGameLen
import Derived.Test.YtpaijobmoddgpabLater
namespace Go.Proofs.Ytpaijobmoddgpab
open Go.ChangeShapes Go.WideShapes Go.ChangeAt Go.RowKit
set_option linter.unusedVariables false

theorem lenV_le {t : Nat → Bool} (hmo : Plain.Mono t) {m : Nat} (hm : m < 64) (htm : t m = true) (most : Bool) {s : Nat} (hs : s < 64) (h1 : Plain.sub s m = true) : Plain.lenV t m most s ≤ 7 := by
  have h := Plain.len_lead hmo hm htm 6 s (Plain.cnt_le _ _) hs h1 7 (by have := Plain.cnt_le m s; omega)
  cases most with
  | true => rw [h.1]; exact Plain.lead_le _ _
  | false => rw [h.2]; exact Plain.lead_le _ _
theorem best_snoc (most : Bool) {l : List Nat} (h : l ≠ []) (x : Nat) : Plain.bestL most (l ++ [x]) = if most = true then max (Plain.bestL most l) x else min (Plain.bestL most l) x := by
  cases l with
  | nil => exact absurd rfl h
  | cons y l => simp [Plain.bestL]
/-- The best number so far, -1 where there is none. -/
def bestI (most : Bool) (l : List Nat) : Int := if l = [] then -1 else (Plain.bestL most l : Int)
theorem falls_mono (xs : List Int) : Plain.Mono (Plain.fallsB xs) := fun a q h => Plain.falls_more q h
def lenW (most : Bool) (xs : List Int) (n s : Int) : Nat := if gameB xs n s = true then Plain.lenV (Plain.fallsB xs) (2 ^ n.toNat - 1) most s.toNat else 0
theorem sub_small {n s : Nat} (h : s ≤ 2 ^ n - 1) : Plain.sub s (2 ^ n - 1) = true := Plain.sub_of fun p hp => by
  rw [Nat.testBit_two_pow_sub_one]
  refine decide_eq_true (Classical.byContradiction fun hn => ?_)
  have h1 := Nat.two_pow_pos n
  rw [Nat.testBit_lt_two_pow (Nat.lt_of_lt_of_le (show s < 2 ^ n by omega) (Nat.pow_le_pow_right (by omega) (by omega : n ≤ p)))] at hp
  cases hp

end Go.Proofs.Ytpaijobmoddgpab
