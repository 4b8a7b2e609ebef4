/- Contracts: impl.wordForms, impl.formOf at the first two forms; spec.ReduceWord, impl.ReduceWord, spec.InverseWord, impl.InverseWord. Conditions: numbers of 64 bits, lengths that fit. -/
import Derived.Test.YtnmjanhpjnlfcaaConjKit
import Derived.Test.YtnmjanhpjnlfcaaInvWalks
import Derived.Test.YtnmjanhpjnlfcaaLawKit
import Derived.Test.YtnmjanhpjnlfcaaWordWalks
import Derived.Laws.EntriesVeiled
namespace Go.Proofs.Ytnmjanhpjnlfcaa
open Go.ChangeShapes Go.WideShapes Go.ChangeAt Go.RowKit






/-- What a form comes to: empty for what is no word. -/
def ifWord (xs out : List Int) : List Int := if Plain.wordB xs = true then out else []
theorem ifWord_yes {xs out : List Int} (h : Plain.wordB xs = true) : ifWord xs out = out := if_pos h
theorem ifWord_no {xs out : List Int} (h : Plain.wordB xs = false) : ifWord xs out = [] := if_neg (by rw [h]; simp)
theorem ifWord_le {xs out : List Int} {n : Nat} (h : out.length ≤ n) : (ifWord xs out).length ≤ n := by
  by_cases hw : Plain.wordB xs = true
  · rw [ifWord_yes hw]; exact h
  · rw [ifWord_no (by simpa using hw)]; exact Nat.zero_le _





end Go.Proofs.Ytnmjanhpjnlfcaa

/- Contracts: spec.JoinWords, impl.JoinWords. Conditions: numbers of 64 bits, lengths that fit. -/
namespace Go.Proofs.Ytnmjanhpjnlfcaa
open Go.ChangeShapes Go.WideShapes Go.ChangeAt Go.RowKit


set_option maxRecDepth 100000 in
set_option maxHeartbeats 400000 in
theorem implJoinW_any (a1 a2 : Option Addr) (c1 c2 : Nat) (xs ys : List Int) (w : World) (h1 : Hid (Ints w a1 xs)) (k1 : Hid (Cap a1 xs.length c1)) (n1 : Hid (In64 xs)) (h2 : Hid (Ints w a2 ys)) (k2 : Hid (Cap a2 ys.length c2)) (n2 : Hid (In64 ys)) (hx : xs.length ≤ 9223372036854775807) (hy : ys.length ≤ 9223372036854775807) :
    Calls Try.prog 17 #[.slice a1 xs.length c1, .slice a2 ys.length c2] w (SB (prodOut xs ys (xs ++ ys)) (prodOk xs ys (xs ++ ys)) w) := by
  cases hw1 : Plain.wordB xs with
  | false =>
    have HE := Lib.hid (prod_no1 (zs := xs ++ ys) (ys := ys) hw1)
    have W1 := Lib.hid hw1
    clear hw1
    go_enter Try.func17, Try.ntmps17
    go_wp2_with fail
    refine (isWord_any _ _ xs _ h1 n1 hx).mono ?_
    rw [W1.out]
    rintro e w' ⟨rfl, rfl⟩
    go_wp2
    go_ret2
    exact sb_eq HE.out.1 HE.out.2 ⟨_, rfl, (coll_res (coll_start w)).1, (coll_start w).2.1⟩
  | true =>
    cases hw2 : Plain.wordB ys with
    | false =>
      have HE := Lib.hid (prod_no2 (zs := xs ++ ys) (xs := xs) hw2)
      have W1 := Lib.hid hw1
      have W2 := Lib.hid hw2
      clear hw1 hw2
      go_enter Try.func17, Try.ntmps17
      go_wp2_with fail
      refine (isWord_any _ _ xs _ h1 n1 hx).mono ?_
      rw [W1.out]
      rintro e w' ⟨rfl, rfl⟩
      go_wp2_with fail
      refine (isWord_any _ _ ys _ h2 n2 hy).mono ?_
      rw [W2.out]
      rintro e w' ⟨rfl, rfl⟩
      go_wp2
      go_ret2
      exact sb_eq HE.out.1 HE.out.2 ⟨_, rfl, (coll_res (coll_start w)).1, (coll_start w).2.1⟩
    | true =>
      have HE := Lib.hid (prod_yes (zs := xs ++ ys) hw1 hw2)
      have L1 := Lib.hid (Plain.wordB_iff.1 hw1).2
      have m1 := (Plain.wordB_iff.1 hw1).1
      have W1 := Lib.hid hw1
      have L2 := Lib.hid (Plain.wordB_iff.1 hw2).2
      have m2 := (Plain.wordB_iff.1 hw2).1
      have W2 := Lib.hid hw2
      clear hw1 hw2
      go_enter Try.func17, Try.ntmps17
      go_wp2_with fail
      refine (isWord_any _ _ xs _ h1 n1 hx).mono ?_
      rw [W1.out]
      rintro e w' ⟨rfl, rfl⟩
      go_wp2_with fail
      refine (isWord_any _ _ ys _ h2 n2 hy).mono ?_
      rw [W2.out]
      rintro e w' ⟨rfl, rfl⟩
      go_wp2_with fail
      refine (product2_any a1 a2 c1 c2 xs ys _ _ h1 k1 h2 k2 L1 L2 (by omega) (by omega)).mono ?_
      rintro e w2 ⟨v, rfl, hr, hb⟩
      have R := Lib.hid hr
      have B4 := Lib.hid hb
      clear hr hb
      go_wp2
      go_ret2
      exact sb_eq HE.out.1 HE.out.2 ⟨_, rfl, R.out, B4.out⟩

end Go.Proofs.Ytnmjanhpjnlfcaa
