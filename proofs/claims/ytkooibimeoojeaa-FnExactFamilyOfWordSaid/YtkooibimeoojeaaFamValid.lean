/- Contracts: spec.l5Family, IsFamily, HasMember. Conditions: numbers of 64 bits, lengths that fit. -/
import Derived.Test.YtkooibimeoojeaaFamSpec
namespace Go.Proofs.Ytkooibimeoojeaa
open Go.ChangeShapes Go.WideShapes Go.ChangeAt Go.RowKit
set_option linter.unusedVariables false

theorem below_ofDrew {B : Nat} {w W wr : World} {n : Nat} (e : wr = W.drewN n) (h : Below B w W) (m : Nat) : Below B w (wr.drewN m) := by subst e; exact below_drewN (below_drewN h n) m
theorem drew_of {W wr : World} {n : Nat} (e : wr = W.drewN n) (m : Nat) : ∃ k, wr.drewN m = W.drewN k := by subst e; exact ⟨n + m, World.drewN_drewN _ _ _⟩
theorem isSet_setB (x : Int) : Plain.isSet x = setB x := rfl
theorem set_range {x : Int} (h : setB x = true) : 0 ≤ x ∧ x ≤ 63 := by simpa [setB] using h
/-- The first k of a list are sets, ascend, and none of them is a part of another one. -/
def FamUpto (xs : List Int) (k : Nat) : Prop :=
  (∀ (j : Nat) (x : Int), j < k → xs[j]? = some x → Plain.isSet x = true) ∧ (∀ (j : Nat) (x y : Int), j + 1 < k → xs[j]? = some x → xs[j + 1]? = some y → x < y) ∧
  ∀ (i j : Nat) (x y : Int), i < j → j < k → xs[i]? = some x → xs[j]? = some y → Plain.partB x y.toNat = false
theorem famUpto_zero (xs : List Int) : FamUpto xs 0 := ⟨fun j x h => by omega, fun j x y h => by omega, fun i j x y _ h => by omega⟩
theorem famUpto_all {xs : List Int} (h : FamUpto xs xs.length) : Plain.famB xs = true :=
  Plain.fam_good (Plain.setsB_good fun i x hx => h.1 i x (at_lt hx) hx) (fun i x y hx hy => h.2.1 i x y (at_lt hy) hx hy) (fun i j x y hij hx hy => h.2.2 i j x y hij (at_lt hy) hx hy)
theorem famUpto_step {xs : List Int} {k : Nat} {x : Int} (h : FamUpto xs k) (hx : xs[k]? = some x) (hs : Plain.isSet x = true) (ho : ∀ (j : Nat) (y : Int), j + 1 = k → xs[j]? = some y → y < x)
    (hp : ∀ (j : Nat) (y : Int), j < k → xs[j]? = some y → Plain.partB y x.toNat = false) : FamUpto xs (k + 1) := by
  refine ⟨fun j y hj hy => ?_, fun j y z hj hy hz => ?_, fun i j y z hij hj hy hz => ?_⟩
  · by_cases e : j = k
    · subst e; rw [hx] at hy; cases hy; exact hs
    · exact h.1 j y (by omega) hy
  · by_cases e : j + 1 = k
    · rw [e, hx] at hz; cases hz; exact ho j y e hy
    · exact h.2.1 j y z (by omega) hy hz
  · by_cases e : j = k
    · subst e; rw [hx] at hz; cases hz; exact hp i y hij hy
    · exact h.2.2 i j y z hij (by omega) hy hz


end Go.Proofs.Ytkooibimeoojeaa
