/- Contracts: impl.hasLengths, LeftLength, firstHalf, balancedLength, BalancedLength. Condition: numbers of 64 bits. -/
import Derived.Test.YtmcbaejgimopmaaGreatLeftSpec
namespace Go.Proofs.YtmcbaejgimopmaaGreat
open Go.ChangeShapes Go.WideShapes Go.ChangeAt Go.RowKit
set_option linter.unusedVariables false

theorem hasLengths_any (n : Int) (w : World) (h : -9223372036854775808 ≤ n ∧ n ≤ 9223372036854775807) : Calls Tryz.prog 49 #[.int .i64 n] w fun e w' => e = .returned (.bool (lenB n)) ∧ w = w' := by
  by_cases h0 : 1 ≤ n
  · by_cases h1 : n ≤ 40
    · have HE : Hid (lenB n = true) := Lib.hid (by simp [lenB]; omega)
      go_enter Tryz.func49, Tryz.ntmps49
      go_wp2_with fail
      go_ret
      exact ⟨ret_bool HE.out.symm, rfl⟩
    · have HE : Hid (lenB n = false) := Lib.hid (by simp [lenB]; omega)
      go_enter Tryz.func49, Tryz.ntmps49
      go_wp2_with fail
      go_ret
      exact ⟨ret_bool HE.out.symm, rfl⟩
  · have HE : Hid (lenB n = false) := Lib.hid (by simp [lenB]; omega)
    go_enter Tryz.func49, Tryz.ntmps49
    go_wp2_with fail
    go_ret
    exact ⟨ret_bool HE.out.symm, rfl⟩
set_option maxHeartbeats 400000 in
theorem implLeftLength_any (n : Int) (w : World) (hr : -9223372036854775808 ≤ n ∧ n ≤ 9223372036854775807) :
    Calls Tryz.prog 17 #[.int .i64 n] w (Val (.tuple #[.int .i64 (leftL n : Nat), .bool (lenB n)]) w) := by
  have HH := Lib.hid (hasLengths_any n w hr)
  cases hs : lenB n with
  | false =>
    have HE := Lib.hid (leftL_no hs)
    rw [hs] at HH
    clear hs
    go_enter Tryz.func17, Tryz.ntmps17
    go_wp2_with fail
    refine HH.out.mono ?_
    rintro e w' ⟨rfl, rfl⟩
    go_wp2_with fail
    go_ret2
    exact val_nb HE.out.symm rfl ⟨rfl, Below.refl _ _⟩
  | true =>
    have HE0 := leftL_yes hs
    obtain ⟨p, rfl, hp1, hp2⟩ := len_nat hs
    rw [hs] at HH
    rw [Int.toNat_natCast] at HE0
    have HE := Lib.hid HE0
    clear hs hr HE0
    go_enter Tryz.func17, Tryz.ntmps17
    go_wp2_with fail
    refine HH.out.mono ?_
    rintro e w' ⟨rfl, rfl⟩
    go_wp2_with fail
    go_loop [4, 10] (fun m i => ∃ k : Nat, k < p ∧ i = .int .i64 (k : Int) ∧ m = .int .i64 (Plain.leftLen k : Nat)) (fun _ i => p + 1 - (intOf i).toNat)
    case atStart => exact ⟨0, by omega, rfl, rfl⟩
    case round =>
      obtain ⟨k, hk, rfl, rfl⟩ := hrel
      have hle := Plain.leftLen_le (k := k) (by omega)
      obtain ⟨m, hm⟩ : ∃ m, m = Plain.leftLen k := ⟨_, rfl⟩
      rw [← hm] at hle ⊢
      have HM := Lib.hid hm
      clear hm
      by_cases hlt : k + 1 < p
      · have hi : (k : Int) < (p : Int) - 1 := by omega
        have HN2 : Hid (Plain.leftLen (k + 1) = 2 * (m + 1)) := Lib.hid (by rw [Plain.leftLen, ← HM.out]; omega)
        go_wp2_with fail
        go_round
        case rel => exact ⟨k + 1, by omega, by go_num, by rw [HN2.out]; go_num⟩
        case measure => simp [intOf]; omega
      · have hi : ¬ (k : Int) < (p : Int) - 1 := by omega
        go_wp2_with fail
        go_ret2
        exact val_nb (by rw [HE.out, HM.out, show p - 1 = k by omega]) rfl ⟨rfl, Below.refl _ _⟩

theorem firstHalf_any (n : Nat) (w : World) (h : n ≤ 1048576) : Calls Tryz.prog 83 #[.int .i64 (n : Int)] w fun e w' => e = .returned (.int .i64 (((n + 1) / 2 : Nat) : Int)) ∧ w = w' := by
  have e1 : ((n : Int) + 1) / 2 = (((n + 1) / 2 : Nat) : Int) := by omega
  go_enter Tryz.func83, Tryz.ntmps83
  go_wp2_with fail
  go_ret
  exact ⟨ret_int e1, rfl⟩
set_option maxHeartbeats 400000 in
theorem implBalLen_any (f : Nat) : ∀ (n : Nat) (w : World), f ≤ 20 → 1 ≤ n → n ≤ 2 ^ f →
    Calls Tryz.prog 52 #[.int .i64 (n : Int)] w fun e w' => e = .returned (.int .i64 (Plain.balLen f n : Nat)) ∧ w = w' := by
  induction f with
  | zero =>
    intro n w _ h1 h2
    obtain rfl : n = 1 := by simp at h2; omega
    go_enter Tryz.func52, Tryz.ntmps52
    go_wp2_with fail
    go_ret
    exact ⟨rfl, rfl⟩
  | succ f ih =>
    intro n w hf h1 h2
    by_cases he : n = 1
    · subst he
      go_enter Tryz.func52, Tryz.ntmps52
      go_wp2_with fail
      go_ret
      exact ⟨rfl, rfl⟩
    · have hb1 := Plain.balLen_le f ((n + 1) / 2)
      have hb2 := Plain.balLen_le f (n / 2)
      have hp : 4 ^ f ≤ 4 ^ 20 := Nat.pow_le_pow_right (by decide) (by omega)
      have hp2 : (4 : Nat) ^ 20 = 1099511627776 := by decide
      have hq : 2 ^ (f + 1) ≤ 2 ^ 20 := Nat.pow_le_pow_right (by decide) (by omega)
      have hq2 : (2 : Nat) ^ 20 = 1048576 := by decide
      have hn : n ≤ 1048576 := by omega
      have HF := Lib.hid (firstHalf_any n w hn)
      have c1 := fun W => ih ((n + 1) / 2) W (by omega) (by omega) (by rw [Nat.pow_succ] at h2; omega)
      have c2 := fun W => ih (n / 2) W (by omega) (by omega) (by rw [Nat.pow_succ] at h2; omega)
      have HN : Hid (Plain.balLen (f + 1) n = 2 * (Plain.balLen f ((n + 1) / 2) + Plain.balLen f (n / 2))) := Lib.hid (by rw [Plain.balLen, if_neg he])
      obtain ⟨m1, hm1⟩ : ∃ m, m = (n + 1) / 2 := ⟨_, rfl⟩
      obtain ⟨m2, hm2⟩ : ∃ m, m = n / 2 := ⟨_, rfl⟩
      rw [← hm1] at c1 HN hb1 HF
      rw [← hm2] at c2 HN hb2
      obtain ⟨r1, hr1⟩ : ∃ r, r = Plain.balLen f m1 := ⟨_, rfl⟩
      obtain ⟨r2, hr2⟩ : ∃ r, r = Plain.balLen f m2 := ⟨_, rfl⟩
      rw [← hr1] at c1 HN hb1
      rw [← hr2] at c2 HN hb2
      have C1 := Lib.hid c1
      have C2 := Lib.hid c2
      have hd2 : (n : Int) - (m1 : Int) = (m2 : Int) := by omega
      have hne : ((n : Int) == 1) = false := by simp; omega
      have hm1b : m1 ≤ 1048576 := by omega
      have hr1b : r1 ≤ 1099511627776 := by omega
      have hr2b : r2 ≤ 1099511627776 := by omega
      clear ih c1 c2 hm1 hm2 hr1 hr2 hb1 hb2 hp hp2 hq hq2 h2
      go_enter Tryz.func52, Tryz.ntmps52
      go_wp2_with fail
      refine HF.out.mono ?_
      rintro e w' ⟨rfl, rfl⟩
      go_wp2_with fail
      refine (C1.out _).mono ?_
      rintro e w' ⟨rfl, rfl⟩
      go_wp2_with fail
      refine (C2.out _).mono ?_
      rintro e w' ⟨rfl, rfl⟩
      go_wp2_with fail
      go_ret
      exact ⟨ret_int (by rw [HN.out]; omega), rfl⟩
set_option maxHeartbeats 400000 in
theorem implBalancedLength_any (n : Int) (w : World) (hr : -9223372036854775808 ≤ n ∧ n ≤ 9223372036854775807) :
    Calls Tryz.prog 20 #[.int .i64 n] w (Val (.tuple #[.int .i64 (balL n : Nat), .bool (lenB n)]) w) := by
  have HH := Lib.hid (hasLengths_any n w hr)
  cases hs : lenB n with
  | false =>
    have HE := Lib.hid (balL_no hs)
    rw [hs] at HH
    clear hs
    go_enter Tryz.func20, Tryz.ntmps20
    go_wp2_with fail
    refine HH.out.mono ?_
    rintro e w' ⟨rfl, rfl⟩
    go_wp2_with fail
    go_ret2
    exact val_nb HE.out.symm rfl ⟨rfl, Below.refl _ _⟩
  | true =>
    have HE0 := balL_yes hs
    obtain ⟨p, rfl, hp1, hp2⟩ := len_nat hs
    rw [hs] at HH
    rw [Int.toNat_natCast] at HE0
    have HE := Lib.hid HE0
    clear hs hr HE0
    go_enter Tryz.func20, Tryz.ntmps20
    go_wp2_with fail
    refine HH.out.mono ?_
    rintro e w' ⟨rfl, rfl⟩
    go_wp2_with fail
    refine (implBalLen_any 6 p _ (by omega) hp1 (by omega)).mono ?_
    rintro e w' ⟨rfl, rfl⟩
    go_wp2_with fail
    go_ret2
    exact val_nb HE.out.symm rfl ⟨rfl, Below.refl _ _⟩

end Go.Proofs.YtmcbaejgimopmaaGreat
