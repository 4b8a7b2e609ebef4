/- Contracts: spec.TurnWord, impl.TurnWord. Conditions: numbers of 64 bits, lengths that fit. -/
import Derived.Test.YtoikehpnpealpaaTurnWalks
import Derived.Test.YtoikehpnpealpaaJoinWWalks
import Derived.Test.YtoikehpnpealpaaMostWalks
namespace Go.Proofs.Ytoikehpnpealpaa
open Go.ChangeShapes Go.WideShapes Go.ChangeAt Go.RowKit
set_option linter.unusedVariables false

/-- A place of a list; 0 for the empty one. -/
def placeB (xs : List Int) (n : Int) : Bool := decide (0 ≤ n ∧ n ≤ ((xs.length - 1 : Nat) : Int))
def turnB (xs : List Int) (n : Int) : Bool := Plain.wordB xs && placeB xs n
def turnOut (xs : List Int) (n : Int) : List Int := if turnB xs n = true then turn xs n.toNat else []
theorem turn_no {xs : List Int} {n : Int} (h : Plain.wordB xs = false ∨ placeB xs n = false) : turnOut xs n = [] ∧ turnB xs n = false := by
  have hb : turnB xs n = false := by rcases h with h | h <;> simp [turnB, h]
  simp [turnOut, hb]
theorem turn_yes {xs : List Int} {k : Nat} (h : Plain.wordB xs = true) (hk : k ≤ xs.length - 1) : turnOut xs (k : Int) = turn xs k ∧ turnB xs (k : Int) = true := by
  have hb : turnB xs (k : Int) = true := by simp [turnB, placeB, h]; omega
  simp [turnOut, hb]
theorem turnOut_le (xs : List Int) (n : Int) : (turnOut xs n).length ≤ xs.length := by
  unfold turnOut
  split
  · rw [turn_length]; exact Nat.le_refl _
  · simp
theorem most_len (xs : List Int) (hm : xs.length ≤ 64) (w : World) : Calls Try.prog 53 #[.int .i64 ((xs.length : Int) - 1), .int .i64 0] w fun e w' => e = .returned (.int .i64 ((xs.length - 1 : Nat) : Int)) ∧ w = w' := by
  by_cases h0 : xs.length = 0
  · rw [h0]
    exact l1Most_le _ _ w (by omega) (by omega) (by omega)
  · rw [show ((xs.length - 1 : Nat) : Int) = (xs.length : Int) - 1 by omega]
    exact l1Most_ge _ _ w (by omega) (by omega) (by omega)

set_option maxRecDepth 100000 in
theorem specTurnW_any (a : Option Addr) (cap : Nat) (xs : List Int) (n : Int) (w : World) (h : Hid (Ints w a xs)) (hk : Hid (Cap a xs.length cap)) (h64 : Hid (In64 xs)) (hx : xs.length ≤ 9223372036854775807) (hr : -9223372036854775808 ≤ n ∧ n ≤ 9223372036854775807) :
    Calls Try.prog 19 #[.slice a xs.length cap, .int .i64 n] w (SB (turnOut xs n) (turnB xs n) w) := by
  have HR := Lib.hid hr
  clear hr
  cases hw : Plain.wordB xs with
  | false =>
    have HE := Lib.hid (turn_no (n := n) (.inl hw))
    have W1 := Lib.hid hw
    clear hw
    go_enter Try.func19, Try.ntmps19
    go_wp2_with fail
    refine (l2Word_any _ _ xs _ h h64 hx).mono ?_
    rw [W1.out]
    rintro e w' ⟨rfl, rfl⟩
    go_wp2
    go_ret2
    exact sb_eq HE.out.1 HE.out.2 ⟨_, rfl, (coll_res (coll_start w)).1, (coll_start w).2.1⟩
  | true =>
    have m1 := (Plain.wordB_iff.1 hw).1
    have W1 := Lib.hid hw
    cases hp : placeB xs n with
    | false =>
      have HE := Lib.hid (turn_no (xs := xs) (.inr hp))
      have P1 : Hid (decide (0 ≤ n ∧ n ≤ ((xs.length - 1 : Nat) : Int)) = false) := Lib.hid hp
      clear hw hp
      go_enter Try.func19, Try.ntmps19
      go_wp2_with fail
      refine (l2Word_any _ _ xs _ h h64 hx).mono ?_
      rw [W1.out]
      rintro e w' ⟨rfl, rfl⟩
      go_wp2_with fail
      refine (most_len xs m1 _).mono ?_
      rintro e w' ⟨rfl, rfl⟩
      go_wp2_with fail
      refine (l1In_any _ _ _ _ HR.out).mono ?_
      rw [P1.out]
      rintro e w' ⟨rfl, rfl⟩
      go_wp2
      go_ret2
      exact sb_eq HE.out.1 HE.out.2 ⟨_, rfl, (coll_res (coll_start w)).1, (coll_start w).2.1⟩
    | true =>
      have hp2 : 0 ≤ n ∧ n ≤ ((xs.length - 1 : Nat) : Int) := by simpa [placeB] using hp
      obtain ⟨k, rfl⟩ := Int.eq_ofNat_of_zero_le hp2.1
      have hkl : k ≤ xs.length - 1 := by omega
      have HE := Lib.hid (turn_yes hw hkl)
      have P1 : Hid (decide (0 ≤ (k : Int) ∧ (k : Int) ≤ ((xs.length - 1 : Nat) : Int)) = true) := Lib.hid hp
      clear hw hp hp2
      go_enter Try.func19, Try.ntmps19
      go_wp2_with fail
      refine (l2Word_any _ _ xs _ h h64 hx).mono ?_
      rw [W1.out]
      rintro e w' ⟨rfl, rfl⟩
      go_wp2_with fail
      refine (most_len xs m1 _).mono ?_
      rintro e w' ⟨rfl, rfl⟩
      go_wp2_with fail
      refine (l1In_any _ _ _ _ HR.out).mono ?_
      rw [P1.out]
      rintro e w' ⟨rfl, rfl⟩
      go_wp2_with fail
      refine (l2Turn_any _ _ xs k _ h hk hkl (by omega)).mono ?_
      rintro e w2 ⟨v, rfl, hr, hb⟩
      have R := Lib.hid hr
      have B2 := Lib.hid hb
      clear hr hb
      go_wp2
      go_ret2
      exact sb_eq HE.out.1 HE.out.2 ⟨_, rfl, R.out, B2.out⟩

set_option maxRecDepth 100000 in
set_option maxHeartbeats 800000 in
theorem implTurnW_any (a : Option Addr) (cap : Nat) (xs : List Int) (n : Int) (w : World) (h : Hid (Ints w a xs)) (hk : Hid (Cap a xs.length cap)) (h64 : Hid (In64 xs)) (hx : xs.length ≤ 9223372036854775807) (hr : -9223372036854775808 ≤ n ∧ n ≤ 9223372036854775807) :
    Calls Try.prog 18 #[.slice a xs.length cap, .int .i64 n] w (SB (turnOut xs n) (turnB xs n) w) := by
  obtain ⟨hr1, hr2⟩ := hr
  cases hw : Plain.wordB xs with
  | false =>
    have HE := Lib.hid (turn_no (n := n) (.inl hw))
    have W1 := Lib.hid hw
    clear hw
    go_enter Try.func18, Try.ntmps18
    go_wp2_with fail
    refine (isWord_any _ _ xs _ h h64 hx).mono ?_
    rw [W1.out]
    rintro e w' ⟨rfl, rfl⟩
    go_wp2
    go_ret2
    exact sb_eq HE.out.1 HE.out.2 ⟨_, rfl, (coll_res (coll_start w)).1, (coll_start w).2.1⟩
  | true =>
    have m1 := (Plain.wordB_iff.1 hw).1
    have W1 := Lib.hid hw
    by_cases hneg : n < 0
    · have HE := Lib.hid (turn_no (xs := xs) (n := n) (.inr (decide_eq_false (by omega))))
      have hd : decide (n < 0) = true := decide_eq_true hneg
      clear hw
      go_enter Try.func18, Try.ntmps18
      go_wp2_with fail
      refine (isWord_any _ _ xs _ h h64 hx).mono ?_
      rw [W1.out]
      rintro e w' ⟨rfl, rfl⟩
      go_wp2
      go_ret2
      exact sb_eq HE.out.1 HE.out.2 ⟨_, rfl, (coll_res (coll_start w)).1, (coll_start w).2.1⟩
    · obtain ⟨k, rfl⟩ := Int.eq_ofNat_of_zero_le (show 0 ≤ n by omega)
      have hd : decide ((k : Int) < 0) = false := decide_eq_false (by omega)
      by_cases h0 : xs.length = 0
      · have hc : ((xs.length : Int) - 1) = -1 := by omega
        by_cases hk0 : k = 0
        · subst hk0
          obtain rfl : xs = [] := List.eq_nil_of_length_eq_zero h0
          have HE := Lib.hid (turn_yes (k := 0) hw (by omega))
          have hT : ∀ w', Hid (Ints w' a []) → Calls Try.prog 55 #[.slice a 0 cap, .int .i64 0] w' (ListPost (turn [] 0) w') := fun w' h' => turned_any a cap [] 0 w' h' hk (by omega) (by simp)
          have h' : Hid (Ints w a []) := h
          clear hw h0 hc
          go_enter Try.func18, Try.ntmps18
          go_wp2_with fail
          refine (isWord_any _ _ [] _ h h64 hx).mono ?_
          rw [W1.out]
          rintro e w' ⟨rfl, rfl⟩
          go_wp2_with fail
          refine (hT _ h').mono ?_
          rintro e w2 ⟨v, rfl, hr, hb⟩
          have R := Lib.hid hr
          have B2 := Lib.hid hb
          clear hr hb
          go_wp2
          go_ret2
          exact sb_eq HE.out.1 HE.out.2 ⟨_, rfl, R.out, B2.out⟩
        · have HE := Lib.hid (turn_no (xs := xs) (n := (k : Int)) (.inr (decide_eq_false (by omega))))
          have hd2 : decide ((0 : Int) < (k : Int)) = true := decide_eq_true (by omega)
          have hd3 : 0 < k := by omega
          have H0 := Lib.hid h0
          clear hw h0 hc
          have hc : ((xs.length : Int) - 1) = -1 := by have := H0.out; omega
          go_enter Try.func18, Try.ntmps18
          go_wp2_with fail
          refine (isWord_any _ _ xs _ h h64 hx).mono ?_
          rw [W1.out]
          rintro e w' ⟨rfl, rfl⟩
          go_wp2
          go_ret2
          exact sb_eq HE.out.1 HE.out.2 ⟨_, rfl, (coll_res (coll_start w)).1, (coll_start w).2.1⟩
      · obtain ⟨m, hm⟩ : ∃ m, xs.length = m + 1 := ⟨xs.length - 1, by omega⟩
        have hc : ((xs.length : Int) - 1) = (m : Int) := by omega
        have hm0 : (0 : Int) ≤ (m : Int) := by omega
        by_cases hkm : k ≤ m
        · have HE := Lib.hid (turn_yes (k := k) hw (by omega))
          have hd2 : decide ((m : Int) < (k : Int)) = false := decide_eq_false (by omega)
          have hd3 : ¬ m < k := by omega
          have HM := Lib.hid hm
          have H0 := Lib.hid h0
          clear hw hm h0
          go_enter Try.func18, Try.ntmps18
          go_wp2_with fail
          refine (isWord_any _ _ xs _ h h64 hx).mono ?_
          rw [W1.out]
          rintro e w' ⟨rfl, rfl⟩
          go_wp2_with fail
          refine (turned_any _ _ xs k _ h hk (by have := HM.out; omega) (by omega)).mono ?_
          rintro e w2 ⟨v, rfl, hr, hb⟩
          have R := Lib.hid hr
          have B2 := Lib.hid hb
          clear hr hb
          go_wp2
          go_ret2
          exact sb_eq HE.out.1 HE.out.2 ⟨_, rfl, R.out, B2.out⟩
        · have HE := Lib.hid (turn_no (xs := xs) (n := (k : Int)) (.inr (decide_eq_false (by omega))))
          have hd2 : decide ((m : Int) < (k : Int)) = true := decide_eq_true (by omega)
          have hd3 : m < k := by omega
          have HM := Lib.hid hm
          have H0 := Lib.hid h0
          clear hw hm h0
          go_enter Try.func18, Try.ntmps18
          go_wp2_with fail
          refine (isWord_any _ _ xs _ h h64 hx).mono ?_
          rw [W1.out]
          rintro e w' ⟨rfl, rfl⟩
          go_wp2
          go_ret2
          exact sb_eq HE.out.1 HE.out.2 ⟨_, rfl, (coll_res (coll_start w)).1, (coll_start w).2.1⟩

theorem bothTurnWord (xs : List Int) (h64 : Hid (In64 xs)) (hx : xs.length ≤ 1048576) (n : Int) (h1 : -9223372036854775808 ≤ n) (h2 : n ≤ 9223372036854775807) : ∃ (out : List Int) (ok : Bool), out.length ≤ 1048576 ∧
    (∀ a cap w, Hid (Ints w a xs) → Hid (Cap a xs.length cap) → Calls Try.prog 19 #[.slice a xs.length cap, .int .i64 n] w (SB out ok w)) ∧
    (∀ a cap w, Hid (Ints w a xs) → Hid (Cap a xs.length cap) → Calls Try.prog 18 #[.slice a xs.length cap, .int .i64 n] w (SB out ok w)) :=
  ⟨_, _, Nat.le_trans (turnOut_le xs n) hx, fun a cap w h hk => specTurnW_any a cap xs n w h hk h64 (by omega) ⟨h1, h2⟩, fun a cap w h hk => implTurnW_any a cap xs n w h hk h64 (by omega) ⟨h1, h2⟩⟩
end Go.Proofs.Ytoikehpnpealpaa
