/- Contracts: slices.Equal; spec.AreConjugate, impl.AreConjugate. Conditions: numbers of 64 bits, lengths that fit. -/
import Derived.Test.YtoikehpnpealpaaLeastWalks
import Derived.Test.YtoikehpnpealpaaWordWalks
import Derived.Test.YtoikehpnpealpaaSame
namespace Go.Proofs.Ytoikehpnpealpaa
open Go.ChangeShapes Go.WideShapes Go.ChangeAt Go.RowKit
set_option linter.unusedVariables false

set_option maxHeartbeats 400000 in
theorem slicesEqual_any (a b : Option Addr) (ca cb : Nat) (xs ys : List Int) (w : World) (ha : Hid (Ints w a xs)) (hb : Hid (Ints w b ys)) (hn : xs.length ≤ 9223372036854775807) :
    Calls Try.prog 60 #[.slice a xs.length ca, .slice b ys.length cb] w (EqPost (decide (xs = ys)) w) := by
  by_cases hl : xs.length = ys.length
  · have HL := Lib.hid hl
    have hll : ((xs.length : Int) != (ys.length : Int)) = false := by rw [hl]; simp
    have hll2 : ((xs.length : Int) == (ys.length : Int)) = true := by rw [hl]; simp
    clear hl
    go_enter Try.func60, Try.ntmps60
    go_wp2_with fail
    go_loopw [13] (fun i wr => ∃ k : Nat, k ≤ xs.length ∧ i = .int .i64 k ∧ Agree xs ys k ∧ ∃ n, wr = w.drewN n) (fun i _ => xs.length - (intOf i).toNat)
    case atStart => exact ⟨0, Nat.zero_le _, rfl, agree_zero _ _, 0, rfl⟩
    case round =>
      obtain ⟨k, hk, rfl, hag, n, rfl⟩ := hrel
      have HA := Lib.hid hag
      clear hag
      by_cases hlt : k < xs.length
      · obtain ⟨x, hx⟩ := at_some xs k hlt
        obtain ⟨y, hy⟩ := at_some ys k (by have := HL.out; omega)
        obtain ⟨b, o, rfl, hc⟩ := ha.out k x hx
        obtain ⟨b2, o2, rfl, hd⟩ := hb.out k y hy
        have HX := Lib.hid hx
        have HY := Lib.hid hy
        have hlt2 : k < ys.length := at_lt hy
        have hi : (k : Int) < (xs.length : Int) := by omega
        have hi2 : (k : Int) < (ys.length : Int) := by omega
        have hi0 : (0 : Int) ≤ (k : Int) := by omega
        clear hx hy
        by_cases he : x = y
        · subst he
          go_wp2
          go_quiet (fail)
          go_wp2
          go_roundw
          case rel => exact ⟨k + 1, by omega, by go_num, agree_succ HA.out HX.out HY.out, _, rfl⟩
          case measure => simp [intOf]; omega
        · have hne : (x == y) = false := by simpa using he
          have hne2 : (x != y) = true := by simpa using he
          have HD := Lib.hid (eq_differ HX.out HY.out he)
          clear he
          go_wp2
          go_quiet (fail)
          go_wp2
          go_ret
          exact ⟨ret_bool HD.out.symm, _, World.drewN_drewN _ _ _⟩
      · have HD := Lib.hid (eq_agree HL.out (fun j x y hj => HA.out j x y (by omega)))
        have hi : ¬ (k : Int) < (xs.length : Int) := by omega
        go_wp2
        go_ret
        exact ⟨ret_bool HD.out.symm, n, rfl⟩
  · have hll : ((xs.length : Int) != (ys.length : Int)) = true := by simp; omega
    have hll2 : ((xs.length : Int) == (ys.length : Int)) = false := by simp; omega
    have HD : Hid (decide (xs = ys) = false) := Lib.hid (by rw [decide_eq_false_iff_not]; rintro rfl; exact hl rfl)
    clear hl
    go_enter Try.func60, Try.ntmps60
    go_wp2_with fail
    go_ret
    exact ⟨ret_bool HD.out.symm, 0, rfl⟩

theorem ret_bool2 {a b c d : Bool} (h1 : a = c) (h2 : b = d) : Ending.returned (.tuple #[.bool a, .bool b]) = .returned (.tuple #[.bool c, .bool d]) := by rw [h1, h2]
def wordsB (xs ys : List Int) : Bool := Plain.wordB xs && Plain.wordB ys
def conjB (xs ys : List Int) : Bool := wordsB xs ys && decide (leastOf xs = leastOf ys)
theorem conj_no {xs ys : List Int} (h : Plain.wordB xs = false ∨ Plain.wordB ys = false) : conjB xs ys = false ∧ wordsB xs ys = false := by
  have hb : wordsB xs ys = false := by rcases h with h | h <;> simp [wordsB, h]
  simp [conjB, hb]
theorem conj_yes {xs ys : List Int} (h1 : Plain.wordB xs = true) (h2 : Plain.wordB ys = true) : conjB xs ys = decide (leastOf xs = leastOf ys) ∧ wordsB xs ys = true := by simp [conjB, wordsB, h1, h2]

set_option maxRecDepth 100000 in
set_option maxHeartbeats 400000 in
theorem specConjugate_any (a1 a2 : Option Addr) (c1 c2 : Nat) (xs ys : List Int) (w : World) (h1 : Hid (Ints w a1 xs)) (n1 : Hid (In64 xs)) (h2 : Hid (Ints w a2 ys)) (n2 : Hid (In64 ys)) (hx : xs.length ≤ 9223372036854775807) (hy : ys.length ≤ 9223372036854775807) :
    Calls Try.prog 22 #[.slice a1 xs.length c1, .slice a2 ys.length c2] w (Val (.tuple #[.bool (conjB xs ys), .bool (wordsB xs ys)]) w) := by
  cases hw1 : Plain.wordB xs with
  | false =>
    have HE := Lib.hid (conj_no (ys := ys) (.inl hw1))
    have W1 := Lib.hid hw1
    clear hw1
    go_enter Try.func22, Try.ntmps22
    go_wp2_with fail
    refine (l2Word_any _ _ xs _ h1 n1 hx).mono ?_
    rw [W1.out]
    rintro e w' ⟨rfl, rfl⟩
    go_wp2
    go_ret2
    exact ⟨ret_bool2 HE.out.1.symm HE.out.2.symm, Below.refl _ _⟩
  | true =>
    cases hw2 : Plain.wordB ys with
    | false =>
      have HE := Lib.hid (conj_no (xs := xs) (.inr hw2))
      have W1 := Lib.hid hw1
      have W2 := Lib.hid hw2
      clear hw1 hw2
      go_enter Try.func22, Try.ntmps22
      go_wp2_with fail
      refine (l2Word_any _ _ xs _ h1 n1 hx).mono ?_
      rw [W1.out]
      rintro e w' ⟨rfl, rfl⟩
      go_wp2_with fail
      refine (l2Word_any _ _ ys _ h2 n2 hy).mono ?_
      rw [W2.out]
      rintro e w' ⟨rfl, rfl⟩
      go_wp2
      go_ret2
      exact ⟨ret_bool2 HE.out.1.symm HE.out.2.symm, Below.refl _ _⟩
    | true =>
      have HE := Lib.hid (conj_yes hw1 hw2)
      have m1 := (Plain.wordB_iff.1 hw1).1
      have m2 := (Plain.wordB_iff.1 hw2).1
      have L1 := Lib.hid (Plain.wordB_iff.1 hw1).2
      have L2 := Lib.hid (Plain.wordB_iff.1 hw2).2
      have W1 := Lib.hid hw1
      have W2 := Lib.hid hw2
      have q1 := leastOf_le xs
      have q2 := leastOf_le ys
      obtain ⟨us, hus⟩ : ∃ us, us = leastOf xs := ⟨_, rfl⟩
      obtain ⟨vs, hvs⟩ : ∃ vs, vs = leastOf ys := ⟨_, rfl⟩
      rw [← hus] at q1 HE
      rw [← hvs] at q2 HE
      have HU := Lib.hid hus
      have HV := Lib.hid hvs
      clear hw1 hw2 hus hvs
      go_enter Try.func22, Try.ntmps22
      go_wp2_with fail
      refine (l2Word_any _ _ xs _ h1 n1 hx).mono ?_
      rw [W1.out]
      rintro e w' ⟨rfl, rfl⟩
      go_wp2_with fail
      refine (l2Word_any _ _ ys _ h2 n2 hy).mono ?_
      rw [W2.out]
      rintro e w' ⟨rfl, rfl⟩
      go_wp2_with fail
      refine (l2Least_any _ _ xs _ h1 L1 (by omega)).mono ?_
      rw [← HU.out]
      rintro e w1 ⟨_, rfl, ⟨a3, c3, rfl, hi3, -, -⟩, hb3⟩
      have I3 := Lib.hid hi3
      have B3 := Lib.hid hb3
      have H2 := Lib.hid (h2.out.on hb3)
      clear hi3 hb3
      go_wp2_with fail
      refine (l2Least_any _ _ ys _ H2 L2 (by omega)).mono ?_
      rw [← HV.out]
      rintro e w2 ⟨_, rfl, ⟨a4, c4, rfl, hi4, -, -⟩, hb4⟩
      have I4 := Lib.hid hi4
      have J3 := Lib.hid (I3.out.on hb4)
      have B4 := Lib.hid (B3.out.trans (hb4.mono B3.out.size))
      clear hi4 hb4
      go_wp2_with fail
      refine (l1Same_any _ _ _ _ us vs _ J3 I4 (by omega)).mono ?_
      rintro e w3 ⟨rfl, n, rfl⟩
      have B5 := Lib.hid (below_drewN B4.out n)
      rw [← HE.out.1]
      go_wp2
      go_ret2
      exact ⟨ret_bool2 rfl HE.out.2.symm, B5.out⟩

set_option maxRecDepth 100000 in
set_option maxHeartbeats 400000 in
theorem implConjugate_any (a1 a2 : Option Addr) (c1 c2 : Nat) (xs ys : List Int) (w : World) (h1 : Hid (Ints w a1 xs)) (n1 : Hid (In64 xs)) (h2 : Hid (Ints w a2 ys)) (n2 : Hid (In64 ys)) (hx : xs.length ≤ 9223372036854775807) (hy : ys.length ≤ 9223372036854775807) :
    Calls Try.prog 21 #[.slice a1 xs.length c1, .slice a2 ys.length c2] w (Val (.tuple #[.bool (conjB xs ys), .bool (wordsB xs ys)]) w) := by
  cases hw1 : Plain.wordB xs with
  | false =>
    have HE := Lib.hid (conj_no (ys := ys) (.inl hw1))
    have W1 := Lib.hid hw1
    clear hw1
    go_enter Try.func21, Try.ntmps21
    go_wp2_with fail
    refine (isWord_any _ _ xs _ h1 n1 hx).mono ?_
    rw [W1.out]
    rintro e w' ⟨rfl, rfl⟩
    go_wp2
    go_ret2
    exact ⟨ret_bool2 HE.out.1.symm HE.out.2.symm, Below.refl _ _⟩
  | true =>
    cases hw2 : Plain.wordB ys with
    | false =>
      have HE := Lib.hid (conj_no (xs := xs) (.inr hw2))
      have W1 := Lib.hid hw1
      have W2 := Lib.hid hw2
      clear hw1 hw2
      go_enter Try.func21, Try.ntmps21
      go_wp2_with fail
      refine (isWord_any _ _ xs _ h1 n1 hx).mono ?_
      rw [W1.out]
      rintro e w' ⟨rfl, rfl⟩
      go_wp2_with fail
      refine (isWord_any _ _ ys _ h2 n2 hy).mono ?_
      rw [W2.out]
      rintro e w' ⟨rfl, rfl⟩
      go_wp2
      go_ret2
      exact ⟨ret_bool2 HE.out.1.symm HE.out.2.symm, Below.refl _ _⟩
    | true =>
      have HE := Lib.hid (conj_yes hw1 hw2)
      have m1 := (Plain.wordB_iff.1 hw1).1
      have m2 := (Plain.wordB_iff.1 hw2).1
      have L1 := Lib.hid (Plain.wordB_iff.1 hw1).2
      have L2 := Lib.hid (Plain.wordB_iff.1 hw2).2
      have W1 := Lib.hid hw1
      have W2 := Lib.hid hw2
      have q1 := leastOf_le xs
      have q2 := leastOf_le ys
      obtain ⟨us, hus⟩ : ∃ us, us = leastOf xs := ⟨_, rfl⟩
      obtain ⟨vs, hvs⟩ : ∃ vs, vs = leastOf ys := ⟨_, rfl⟩
      rw [← hus] at q1 HE
      rw [← hvs] at q2 HE
      have HU := Lib.hid hus
      have HV := Lib.hid hvs
      clear hw1 hw2 hus hvs
      go_enter Try.func21, Try.ntmps21
      go_wp2_with fail
      refine (isWord_any _ _ xs _ h1 n1 hx).mono ?_
      rw [W1.out]
      rintro e w' ⟨rfl, rfl⟩
      go_wp2_with fail
      refine (isWord_any _ _ ys _ h2 n2 hy).mono ?_
      rw [W2.out]
      rintro e w' ⟨rfl, rfl⟩
      go_wp2_with fail
      refine (leastTurn_any _ _ xs _ h1 L1 (by omega)).mono ?_
      rw [← HU.out]
      rintro e w1 ⟨_, rfl, ⟨a3, c3, rfl, hi3, -, -⟩, hb3⟩
      have I3 := Lib.hid hi3
      have B3 := Lib.hid hb3
      have H2 := Lib.hid (h2.out.on hb3)
      clear hi3 hb3
      go_wp2_with fail
      refine (leastTurn_any _ _ ys _ H2 L2 (by omega)).mono ?_
      rw [← HV.out]
      rintro e w2 ⟨_, rfl, ⟨a4, c4, rfl, hi4, -, -⟩, hb4⟩
      have I4 := Lib.hid hi4
      have J3 := Lib.hid (I3.out.on hb4)
      have B4 := Lib.hid (B3.out.trans (hb4.mono B3.out.size))
      clear hi4 hb4
      go_wp2_with fail
      refine (slicesEqual_any _ _ _ _ us vs _ J3 I4 (by omega)).mono ?_
      rintro e w3 ⟨rfl, n, rfl⟩
      have B5 := Lib.hid (below_drewN B4.out n)
      rw [← HE.out.1]
      go_wp2
      go_ret2
      exact ⟨ret_bool2 rfl HE.out.2.symm, B5.out⟩

theorem bothAreConjugate (xs : List Int) (n1 : Hid (In64 xs)) (hx : xs.length ≤ 1048576) (ys : List Int) (n2 : Hid (In64 ys)) (hy : ys.length ≤ 1048576) : ∃ (b c : Bool),
    (∀ a1 c1 a2 c2 w, Hid (Ints w a1 xs) → Hid (Ints w a2 ys) → Calls Try.prog 22 #[.slice a1 xs.length c1, .slice a2 ys.length c2] w (Val (.tuple #[.bool b, .bool c]) w)) ∧
    (∀ a1 c1 a2 c2 w, Hid (Ints w a1 xs) → Hid (Ints w a2 ys) → Calls Try.prog 21 #[.slice a1 xs.length c1, .slice a2 ys.length c2] w (Val (.tuple #[.bool b, .bool c]) w)) :=
  ⟨_, _, fun a1 c1 a2 c2 w h1 h2 => specConjugate_any a1 a2 c1 c2 xs ys w h1 n1 h2 n2 (by omega) (by omega), fun a1 c1 a2 c2 w h1 h2 => implConjugate_any a1 a2 c1 c2 xs ys w h1 n1 h2 n2 (by omega) (by omega)⟩
end Go.Proofs.Ytoikehpnpealpaa
