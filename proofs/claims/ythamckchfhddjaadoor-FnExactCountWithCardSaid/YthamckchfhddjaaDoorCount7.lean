/- Contracts: spec.l7Nails, l7Reduced, l7Behind, impl.isNail; CountReduced, CountCyclicWords of both. Conditions: numbers of 64 bits, at most six nails, at most 64 letters. -/
import Derived.Test.YthamckchfhddjaaDoorRankMath
import Derived.Test.YthamckchfhddjaaDoorSetKit
namespace Go.Proofs.YthamckchfhddjaaDoor
open Go.ChangeShapes Go.WideShapes Go.ChangeAt Go.RowKit
set_option linter.unusedVariables false

def n6B (n : Int) : Bool := decide (1 ≤ n ∧ n ≤ 6)
theorem l7Nails_any (n : Int) (w : World) (h : -9223372036854775808 ≤ n ∧ n ≤ 9223372036854775807) : Calls Tryd.prog 78 #[.int .i64 n] w fun e w' => e = .returned (.bool (n6B n)) ∧ w = w' := by
  go_enter Tryd.func78, Tryd.ntmps78
  go_wp2_with fail
  refine (l1In_any n 1 6 _ h).mono ?_
  rintro e w' ⟨rfl, rfl⟩
  go_wp2_with fail
  go_ret
  exact ⟨ret_bool (by simp [n6B]), rfl⟩
theorem isNail_any (n : Int) (w : World) (h : -9223372036854775808 ≤ n ∧ n ≤ 9223372036854775807) : Calls Tryd.prog 83 #[.int .i64 n] w fun e w' => e = .returned (.bool (n6B n)) ∧ w = w' := by
  by_cases h0 : 1 ≤ n
  · by_cases h1 : n ≤ 6
    · have HE : Hid (n6B n = true) := Lib.hid (by simp [n6B]; omega)
      go_enter Tryd.func83, Tryd.ntmps83
      go_wp2_with fail
      go_ret
      exact ⟨ret_bool HE.out.symm, rfl⟩
    · have HE : Hid (n6B n = false) := Lib.hid (by simp [n6B]; omega)
      go_enter Tryd.func83, Tryd.ntmps83
      go_wp2_with fail
      go_ret
      exact ⟨ret_bool HE.out.symm, rfl⟩
  · have HE : Hid (n6B n = false) := Lib.hid (by simp [n6B]; omega)
    go_enter Tryd.func83, Tryd.ntmps83
    go_wp2_with fail
    go_ret
    exact ⟨ret_bool HE.out.symm, rfl⟩
/-- What l7Reduced and l7Behind hand back. -/
def capV (m : Nat) : Int := if m ≤ 1000000000000 then (m : Int) else -1
theorem capV_yes {m : Nat} (h : m ≤ 1000000000000) : capV m = (m : Int) := if_pos h
theorem capV_no {m : Nat} (h : 1000000000000 < m) : capV m = -1 := if_neg (by omega)

theorem cnt_out {n L : Int} (h : ¬ (1 ≤ n ∧ n ≤ 6 ∧ 0 ≤ L ∧ L ≤ 64)) : Plain.cntB n L = false ∧ Plain.cntW n L = 0 ∧ Plain.cycW n L = 0 := by
  have : Plain.cntB n L = false := by rw [Plain.cntB, decide_eq_false h]; rfl
  exact ⟨this, if_neg (by rw [this]; simp), if_neg (by rw [this]; simp)⟩
theorem cnt_in {n L : Nat} (h1 : 1 ≤ n) (h6 : n ≤ 6) (hL : L ≤ 64) : Plain.cntB (n : Int) (L : Int) = Plain.fitB n L := by
  rw [Plain.cntB, decide_eq_true (by omega), Int.toNat_natCast, Int.toNat_natCast]; rfl
theorem cnt_fit {n L : Nat} (h1 : 1 ≤ n) (h6 : n ≤ 6) (hL : L ≤ 64) (h : Plain.cntN n L ≤ 1000000000000) : Plain.cntB (n : Int) (L : Int) = true ∧ Plain.cntW (n : Int) (L : Int) = (Plain.cntN n L : Nat) ∧ Plain.cycW (n : Int) (L : Int) = Plain.cycN n L := by
  have : Plain.cntB (n : Int) (L : Int) = true := by rw [cnt_in h1 h6 hL]; exact decide_eq_true h
  exact ⟨this, by rw [Plain.cntW, if_pos this, Int.toNat_natCast, Int.toNat_natCast], by rw [Plain.cycW, if_pos this, Int.toNat_natCast, Int.toNat_natCast]⟩
theorem cnt_big {n L : Nat} (h1 : 1 ≤ n) (h6 : n ≤ 6) (hL : L ≤ 64) (h : 1000000000000 < Plain.cntN n L) : Plain.cntB (n : Int) (L : Int) = false ∧ Plain.cntW (n : Int) (L : Int) = 0 ∧ Plain.cycW (n : Int) (L : Int) = 0 := by
  have : Plain.cntB (n : Int) (L : Int) = false := by rw [cnt_in h1 h6 hL]; exact decide_eq_false (by omega)
  exact ⟨this, if_neg (by rw [this]; simp), if_neg (by rw [this]; simp)⟩
theorem ret_ib7 {a b : Int} {c d : Bool} (h1 : a = b) (h2 : c = d) : Ending.returned (.tuple #[.int .i64 a, .bool c]) = .returned (.tuple #[.int .i64 b, .bool d]) := by rw [h1, h2]

end Go.Proofs.YthamckchfhddjaaDoor
