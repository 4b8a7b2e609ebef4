/- Contracts: impl.firstNails, isPart, isWordOf; spec.l7Letter, l7Word. Conditions: numbers of 64 bits, lengths that fit. -/
import Derived.Test.YthamckchfhddjaaCount7
import Derived.Test.YthamckchfhddjaaIsRedWalks
import Derived.Test.YthamckchfhddjaaNailsWalks
import Derived.Test.YthamckchfhddjaaBehindMath
namespace Go.Proofs.Ythamckchfhddjaa
open Go.ChangeShapes Go.WideShapes Go.ChangeAt Go.RowKit
set_option linter.unusedVariables false

theorem clr_low : ((List.range 64).all fun a => (List.range 7).all fun n => (Plain.clr a (2 ^ n - 1) == 0) == decide (a < 2 ^ n)) = true := by kernel_rfl
theorem clr_lowB {a n m : Nat} (ha : a < 64) (hn : n ≤ 6) (hm : m + 1 = 2 ^ n) : (Plain.clr a m == 0) = decide (a < 2 ^ n) := by
  have h1 := List.all_eq_true.1 (List.all_eq_true.1 clr_low a (List.mem_range.2 ha)) n (List.mem_range.2 (by omega))
  rw [show m = 2 ^ n - 1 by omega]
  simpa using h1
theorem pow7_m {n m : Nat} (hn : n ≤ 6) (hm : m + 1 = 2 ^ n) : (2 : Int) ^ n = (m : Int) + 1 ∧ m < 64 := by
  have h1 : ((m + 1 : Nat) : Int) = ((2 ^ n : Nat) : Int) := by rw [hm]
  have h2 : 2 ^ n ≤ 64 := Nat.le_trans (Nat.pow_le_pow_right (by decide) hn) (by decide)
  exact ⟨by simpa using h1.symm, by omega⟩
theorem part7_any (a s : Nat) (w : World) (ha : a < 64) (hs : s < 64) :
    Calls Try.prog 48 #[.int .i64 (a : Int), .int .i64 (s : Int)] w fun e w' => e = .returned (.bool (Plain.clr a s == 0)) ∧ w = w' := by
  have hclr := clr_small ha hs
  obtain ⟨c, hc⟩ : ∃ c, c = Plain.clr a s := ⟨_, rfl⟩
  rw [← hc] at hclr ⊢
  clear hc
  have HP2 : Hid ((c == 0) = ((c : Int) == 0)) := Lib.hid (by rw [Bool.eq_iff_iff]; simp)
  rw [HP2.out]
  clear HP2
  go_enter Try.func48, Try.ntmps48
  go_wp2_with fail
  go_ret
  exact ⟨rfl, rfl⟩
theorem first7_any (n m : Nat) (w : World) (hn : n ≤ 6) (hm : m + 1 = 2 ^ n) : Calls Try.prog 50 #[.int .i64 (n : Int)] w fun e w' => e = .returned (.int .i64 (m : Int)) ∧ w = w' := by
  obtain ⟨hpow, hm64⟩ := pow7_m hn hm
  clear hm
  go_enter Try.func50, Try.ntmps50
  go_wp2_with fail
  go_ret
  exact ⟨rfl, rfl⟩
set_option maxHeartbeats 1600000 in
theorem l7Letter_any (k : Nat) (w : World) (hk : k < 12) : Calls Try.prog 34 #[.int .i64 (k : Int)] w fun e w' => e = .returned (.int .i64 (Plain.letterAt k)) ∧ w' = w := by
  have hh : k = 0 ∨ k = 1 ∨ k = 2 ∨ k = 3 ∨ k = 4 ∨ k = 5 ∨ k = 6 ∨ k = 7 ∨ k = 8 ∨ k = 9 ∨ k = 10 ∨ k = 11 := by omega
  rcases hh with rfl | rfl | rfl | rfl | rfl | rfl | rfl | rfl | rfl | rfl | rfl | rfl
  all_goals
    go_enter Try.func34, Try.ntmps34
    go_wp2_with fail
    go_ret
    exact ⟨rfl, rfl⟩
/-- A reduced word of letters of the nails 1..n. -/
def wordOfB (xs : List Int) (n : Int) : Bool := Plain.wordB xs && redB xs && n6B n && decide (nailSet xs < 2 ^ n.toNat)
theorem wordOf_word {xs : List Int} {n : Int} (h : wordOfB xs n = true) : Plain.wordB xs = true ∧ redB xs = true ∧ n6B n = true ∧ nailSet xs < 2 ^ n.toNat := by
  simp only [wordOfB, Bool.and_eq_true, decide_eq_true_eq] at h
  exact ⟨h.1.1.1, h.1.1.2, h.1.2, h.2⟩
theorem wordOf_no1 {xs : List Int} {n : Int} (h : Plain.wordB xs = false) : wordOfB xs n = false := by simp [wordOfB, h]
theorem wordOf_no2 {xs : List Int} {n : Int} (h : redB xs = false) : wordOfB xs n = false := by simp [wordOfB, h]
theorem wordOf_no3 {xs : List Int} {n : Int} (h : n6B n = false) : wordOfB xs n = false := by simp [wordOfB, h]
theorem wordOf_is {xs : List Int} {n : Int} (h1 : Plain.wordB xs = true) (h2 : redB xs = true) (h3 : n6B n = true) : wordOfB xs n = decide (nailSet xs < 2 ^ n.toNat) := by simp [wordOfB, h1, h2, h3]
theorem n6_nat {n : Int} (h : n6B n = true) : ∃ k : Nat, n = (k : Int) ∧ 1 ≤ k ∧ k ≤ 6 := by
  simp only [n6B, decide_eq_true_eq] at h
  exact ⟨n.toNat, by omega, by omega, by omega⟩
set_option maxHeartbeats 800000 in
theorem isWordOf_any (a : Option Addr) (cap : Nat) (xs : List Int) (n : Int) (w : World) (h : Hid (Ints w a xs)) (h64 : Hid (In64 xs)) (hn : xs.length ≤ 9223372036854775807) (hr : -9223372036854775808 ≤ n ∧ n ≤ 9223372036854775807) :
    Calls Try.prog 29 #[.slice a xs.length cap, .int .i64 n] w (Val (.bool (wordOfB xs n)) w) := by
  cases hw : Plain.wordB xs with
  | false =>
    have HE := Lib.hid (wordOf_no1 (n := n) hw)
    have HI : Hid (isRedB xs = false) := Lib.hid (isRed_no hw)
    have HW := Lib.hid hw
    clear hw
    go_enter Try.func29, Try.ntmps29
    go_wp2_with fail
    refine (implIsReduced_any _ _ xs _ h h64 hn).mono ?_
    rw [HW.out, HI.out]
    rintro e w1 ⟨rfl, hb⟩
    have B1 := Lib.hid hb
    clear hb
    go_wp2_with fail
    go_ret
    exact ⟨ret_bool HE.out.symm, B1.out⟩
  | true =>
    cases hd : redB xs with
    | false =>
      have HE := Lib.hid (wordOf_no2 (n := n) hd)
      have HI : Hid (isRedB xs = false) := Lib.hid ((isRed_yes hw).trans hd)
      have HW := Lib.hid hw
      clear hw hd
      go_enter Try.func29, Try.ntmps29
      go_wp2_with fail
      refine (implIsReduced_any _ _ xs _ h h64 hn).mono ?_
      rw [HW.out, HI.out]
      rintro e w1 ⟨rfl, hb⟩
      have B1 := Lib.hid hb
      clear hb
      go_wp2_with fail
      go_ret
      exact ⟨ret_bool HE.out.symm, B1.out⟩
    | true =>
      have HI : Hid (isRedB xs = true) := Lib.hid ((isRed_yes hw).trans hd)
      have hl := Plain.wordB_iff.1 hw
      have hx64 := hl.1
      have HL := Lib.hid hl.2
      have HW := Lib.hid hw
      cases h6 : n6B n with
      | false =>
        have HE := Lib.hid (wordOf_no3 (xs := xs) h6)
        have HN := Lib.hid h6
        clear hw hd h6 hl
        go_enter Try.func29, Try.ntmps29
        go_wp2_with fail
        refine (implIsReduced_any _ _ xs _ h h64 hn).mono ?_
        rw [HW.out, HI.out]
        rintro e w1 ⟨rfl, hb⟩
        have B1 := Lib.hid hb
        clear hb
        go_wp2_with fail
        refine (isNail_any n _ hr).mono ?_
        rw [HN.out]
        rintro e w2 ⟨rfl, rfl⟩
        go_wp2_with fail
        go_ret
        exact ⟨ret_bool HE.out.symm, B1.out⟩
      | true =>
        have hE := wordOf_is hw hd h6
        have hs64 := nailSet_lt hl.2
        obtain ⟨k, rfl, hk1, hk6⟩ := n6_nat h6
        rw [Int.toNat_natCast] at hE
        obtain ⟨m, hm⟩ : ∃ m, m + 1 = 2 ^ k := ⟨2 ^ k - 1, by have := Nat.pow_pos (a := 2) (n := k) (by decide); omega⟩
        have hm64 := (pow7_m hk6 hm).2
        have HE : Hid (wordOfB xs (k : Int) = (Plain.clr (nailSet xs) m == 0)) := Lib.hid (hE.trans (clr_lowB hs64 hk6 hm).symm)
        have HN := Lib.hid h6
        have HM := Lib.hid hm
        clear hw hd h6 hl hE hm
        go_enter Try.func29, Try.ntmps29
        go_wp2_with fail
        refine (implIsReduced_any _ _ xs _ h h64 hn).mono ?_
        rw [HW.out, HI.out]
        rintro e w1 ⟨rfl, hb⟩
        have B1 := Lib.hid hb
        have H1 := Lib.hid (h.out.on hb)
        clear hb
        go_wp2_with fail
        refine (isNail_any (k : Int) _ hr).mono ?_
        rw [HN.out]
        rintro e w2 ⟨rfl, rfl⟩
        go_wp2_with fail
        refine (nails_any _ _ xs _ H1 HL (by omega)).mono ?_
        rintro e w2 ⟨rfl, rfl⟩
        go_wp2_with fail
        refine (first7_any k m _ hk6 HM.out).mono ?_
        rintro e w2 ⟨rfl, rfl⟩
        go_wp2_with fail
        refine (part7_any (nailSet xs) m _ hs64 hm64).mono ?_
        rw [← HE.out]
        rintro e w2 ⟨rfl, rfl⟩
        go_wp2_with fail
        go_ret
        exact ⟨rfl, B1.out⟩
set_option maxHeartbeats 1600000 in
theorem l7Word_any (a : Option Addr) (cap : Nat) (xs : List Int) (n : Int) (w : World) (h : Hid (Ints w a xs)) (h64 : Hid (In64 xs)) (hn : xs.length ≤ 9223372036854775807) (hr : -9223372036854775808 ≤ n ∧ n ≤ 9223372036854775807) :
    Calls Try.prog 26 #[.slice a xs.length cap, .int .i64 n] w (Val (.bool (wordOfB xs n)) w) := by
  cases h6 : n6B n with
  | false =>
    have HE := Lib.hid (wordOf_no3 (xs := xs) h6)
    have HN := Lib.hid h6
    clear h6
    go_enter Try.func26, Try.ntmps26
    go_wp2_with fail
    refine (l7Nails_any n _ hr).mono ?_
    rw [HN.out]
    rintro e w' ⟨rfl, rfl⟩
    go_wp2_with fail
    go_ret
    exact ⟨ret_bool HE.out.symm, Below.refl _ _⟩
  | true =>
    have HN := Lib.hid h6
    cases hw : Plain.wordB xs with
    | false =>
      have HE := Lib.hid (wordOf_no1 (n := n) hw)
      have HW := Lib.hid hw
      clear hw h6
      go_enter Try.func26, Try.ntmps26
      go_wp2_with fail
      refine (l7Nails_any n _ hr).mono ?_
      rw [HN.out]
      rintro e w' ⟨rfl, rfl⟩
      go_wp2_with fail
      refine (l2Word_any _ _ xs _ h h64 hn).mono ?_
      rw [HW.out]
      rintro e w' ⟨rfl, rfl⟩
      go_wp2_with fail
      go_ret
      exact ⟨ret_bool HE.out.symm, Below.refl _ _⟩
    | true =>
      have hl := Plain.wordB_iff.1 hw
      have hx64 := hl.1
      have HL := Lib.hid hl.2
      have HW := Lib.hid hw
      cases hd : redB xs with
      | false =>
        have HE := Lib.hid (wordOf_no2 (n := n) hd)
        have HD := Lib.hid hd
        clear hw hd hl h6
        go_enter Try.func26, Try.ntmps26
        go_wp2_with fail
        refine (l7Nails_any n _ hr).mono ?_
        rw [HN.out]
        rintro e w' ⟨rfl, rfl⟩
        go_wp2_with fail
        refine (l2Word_any _ _ xs _ h h64 hn).mono ?_
        rw [HW.out]
        rintro e w' ⟨rfl, rfl⟩
        go_wp2_with fail
        refine (l2Reduced_any _ _ xs _ h HL (by omega)).mono ?_
        rw [HD.out]
        rintro e w1 ⟨rfl, hb⟩
        have B1 := Lib.hid hb
        clear hb
        go_wp2_with fail
        go_ret
        exact ⟨ret_bool HE.out.symm, B1.out⟩
      | true =>
        have hE := wordOf_is hw hd h6
        have hs64 := nailSet_lt hl.2
        have HD := Lib.hid hd
        obtain ⟨k, rfl, hk1, hk6⟩ := n6_nat h6
        rw [Int.toNat_natCast] at hE
        obtain ⟨s, hs⟩ : ∃ s, s = nailSet xs := ⟨_, rfl⟩
        rw [← hs] at hE hs64
        have HS := Lib.hid hs
        clear hw hd h6 hl hs
        by_cases hlow : s < 2 ^ k
        · have HE := Lib.hid (hE.trans (decide_eq_true hlow))
          clear hE
          have hh : k = 1 ∨ k = 2 ∨ k = 3 ∨ k = 4 ∨ k = 5 ∨ k = 6 := by omega
          rcases hh with rfl | rfl | rfl | rfl | rfl | rfl
          all_goals
            simp only [Nat.reducePow] at hlow
            go_enter Try.func26, Try.ntmps26
            go_wp2_with fail
            refine (l7Nails_any _ _ hr).mono ?_
            rw [HN.out]
            rintro e w' ⟨rfl, rfl⟩
            go_wp2_with fail
            refine (l2Word_any _ _ xs _ h h64 hn).mono ?_
            rw [HW.out]
            rintro e w' ⟨rfl, rfl⟩
            go_wp2_with fail
            refine (l2Reduced_any _ _ xs _ h HL (by omega)).mono ?_
            rw [HD.out]
            rintro e w1 ⟨rfl, hb⟩
            have B1 := Lib.hid hb
            have H1 := Lib.hid (h.out.on hb)
            clear hb
            go_wp2_with fail
            refine (l2Nails_any _ _ xs _ H1 HL (by omega)).mono ?_
            rw [← HS.out]
            rintro e w2 ⟨rfl, rfl⟩
            go_wp2_with fail
            go_ret
            exact ⟨ret_bool (by rw [HE.out]; simp; omega), B1.out⟩
        · have HE := Lib.hid (hE.trans (decide_eq_false hlow))
          clear hE
          have hh : k = 1 ∨ k = 2 ∨ k = 3 ∨ k = 4 ∨ k = 5 ∨ k = 6 := by omega
          rcases hh with rfl | rfl | rfl | rfl | rfl | rfl
          all_goals
            simp only [Nat.reducePow] at hlow
            go_enter Try.func26, Try.ntmps26
            go_wp2_with fail
            refine (l7Nails_any _ _ hr).mono ?_
            rw [HN.out]
            rintro e w' ⟨rfl, rfl⟩
            go_wp2_with fail
            refine (l2Word_any _ _ xs _ h h64 hn).mono ?_
            rw [HW.out]
            rintro e w' ⟨rfl, rfl⟩
            go_wp2_with fail
            refine (l2Reduced_any _ _ xs _ h HL (by omega)).mono ?_
            rw [HD.out]
            rintro e w1 ⟨rfl, hb⟩
            have B1 := Lib.hid hb
            have H1 := Lib.hid (h.out.on hb)
            clear hb
            go_wp2_with fail
            refine (l2Nails_any _ _ xs _ H1 HL (by omega)).mono ?_
            rw [← HS.out]
            rintro e w2 ⟨rfl, rfl⟩
            go_wp2_with fail
            go_ret
            exact ⟨ret_bool (by rw [HE.out]; simp; omega), B1.out⟩

end Go.Proofs.Ythamckchfhddjaa
