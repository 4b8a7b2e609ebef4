/- Contracts: spec.LessWord, impl.LessWord. Conditions: numbers of 64 bits, lengths that fit. -/
import Derived.Test.YtoikehpnpealpaaLawKit
import Derived.Test.YtoikehpnpealpaaLessWalks
import Derived.Test.YtoikehpnpealpaaWordWalks
namespace Go.Proofs.Ytoikehpnpealpaa
open Go.ChangeShapes Go.WideShapes Go.ChangeAt Go.RowKit
set_option linter.unusedVariables false

theorem ret_less2 {a b c d : Bool} (h1 : a = c) (h2 : b = d) : Ending.returned (.tuple #[.bool a, .bool b]) = .returned (.tuple #[.bool c, .bool d]) := by rw [h1, h2]
def pairB (xs ys : List Int) : Bool := Plain.wordB xs && Plain.wordB ys
def lessWB (xs ys : List Int) : Bool := pairB xs ys && Plain.lessB xs ys
theorem lessW_no {xs ys : List Int} (h : Plain.wordB xs = false ∨ Plain.wordB ys = false) : lessWB xs ys = false ∧ pairB xs ys = false := by
  have hb : pairB xs ys = false := by rcases h with h | h <;> simp [pairB, h]
  simp [lessWB, hb]
theorem lessW_yes {xs ys : List Int} (h1 : Plain.wordB xs = true) (h2 : Plain.wordB ys = true) : lessWB xs ys = Plain.lessB xs ys ∧ pairB xs ys = true := by simp [lessWB, pairB, h1, h2]


set_option maxRecDepth 100000 in
set_option maxHeartbeats 400000 in
theorem implLessW_any (a1 a2 : Option Addr) (c1 c2 : Nat) (xs ys : List Int) (w : World) (h1 : Hid (Ints w a1 xs)) (n1 : Hid (In64 xs)) (h2 : Hid (Ints w a2 ys)) (n2 : Hid (In64 ys)) (hx : xs.length ≤ 9223372036854775807) (hy : ys.length ≤ 9223372036854775807) :
    Calls Try.prog 25 #[.slice a1 xs.length c1, .slice a2 ys.length c2] w (Val (.tuple #[.bool (lessWB xs ys), .bool (pairB xs ys)]) w) := by
  cases hw1 : Plain.wordB xs with
  | false =>
    have HE := Lib.hid (lessW_no (ys := ys) (.inl hw1))
    have W1 := Lib.hid hw1
    clear hw1
    go_enter Try.func25, Try.ntmps25
    go_wp2_with fail
    refine (isWord_any _ _ xs _ h1 n1 hx).mono ?_
    rw [W1.out]
    rintro e w' ⟨rfl, rfl⟩
    go_wp2
    go_ret2
    exact ⟨ret_less2 HE.out.1.symm HE.out.2.symm, Below.refl _ _⟩
  | true =>
    cases hw2 : Plain.wordB ys with
    | false =>
      have HE := Lib.hid (lessW_no (xs := xs) (.inr hw2))
      have W1 := Lib.hid hw1
      have W2 := Lib.hid hw2
      clear hw1 hw2
      go_enter Try.func25, Try.ntmps25
      go_wp2_with fail
      refine (isWord_any _ _ xs _ h1 n1 hx).mono ?_
      rw [W1.out]
      rintro e w' ⟨rfl, rfl⟩
      go_wp2_with fail
      refine (isWord_any _ _ ys _ h2 n2 hy).mono ?_
      rw [W2.out]
      rintro e w' ⟨rfl, rfl⟩
      go_wp2
      go_ret2
      exact ⟨ret_less2 HE.out.1.symm HE.out.2.symm, Below.refl _ _⟩
    | true =>
      have HE := Lib.hid (lessW_yes hw1 hw2)
      have L1 := Lib.hid (Plain.wordB_iff.1 hw1).2
      have L2 := Lib.hid (Plain.wordB_iff.1 hw2).2
      have W1 := Lib.hid hw1
      have W2 := Lib.hid hw2
      clear hw1 hw2
      go_enter Try.func25, Try.ntmps25
      go_wp2_with fail
      refine (isWord_any _ _ xs _ h1 n1 hx).mono ?_
      rw [W1.out]
      rintro e w' ⟨rfl, rfl⟩
      go_wp2_with fail
      refine (isWord_any _ _ ys _ h2 n2 hy).mono ?_
      rw [W2.out]
      rintro e w' ⟨rfl, rfl⟩
      go_wp2_with fail
      refine (isBefore_any _ _ _ _ xs ys _ h1 h2 L1 L2 hx hy).mono ?_
      rw [← HE.out.1]
      rintro e w3 ⟨rfl, rfl⟩
      go_wp2
      go_ret2
      exact ⟨ret_less2 rfl HE.out.2.symm, Below.refl _ _⟩

end Go.Proofs.Ytoikehpnpealpaa
