/- Contracts: spec.l7Nails, l7Reduced, l7Behind, impl.isNail; CountReduced, CountCyclicWords of both. Conditions: numbers of 64 bits, at most six nails, at most 64 letters. -/
import Derived.Test.YthamckchfhddjaaTriMath
import Derived.Test.YthamckchfhddjaaSetKit
namespace Go.Proofs.Ythamckchfhddjaa
open Go.ChangeShapes Go.WideShapes Go.ChangeAt Go.RowKit
set_option linter.unusedVariables false

def n6B (n : Int) : Bool := decide (1 ≤ n ∧ n ≤ 6)
theorem l7Nails_any (n : Int) (w : World) (h : -9223372036854775808 ≤ n ∧ n ≤ 9223372036854775807) : Calls Try.prog 22 #[.int .i64 n] w fun e w' => e = .returned (.bool (n6B n)) ∧ w = w' := by
  go_enter Try.func22, Try.ntmps22
  go_wp2_with fail
  refine (l1In_any n 1 6 _ h).mono ?_
  rintro e w' ⟨rfl, rfl⟩
  go_wp2_with fail
  go_ret
  exact ⟨ret_bool (by simp [n6B]), rfl⟩
theorem isNail_any (n : Int) (w : World) (h : -9223372036854775808 ≤ n ∧ n ≤ 9223372036854775807) : Calls Try.prog 35 #[.int .i64 n] w fun e w' => e = .returned (.bool (n6B n)) ∧ w = w' := by
  by_cases h0 : 1 ≤ n
  · by_cases h1 : n ≤ 6
    · have HE : Hid (n6B n = true) := Lib.hid (by simp [n6B]; omega)
      go_enter Try.func35, Try.ntmps35
      go_wp2_with fail
      go_ret
      exact ⟨ret_bool HE.out.symm, rfl⟩
    · have HE : Hid (n6B n = false) := Lib.hid (by simp [n6B]; omega)
      go_enter Try.func35, Try.ntmps35
      go_wp2_with fail
      go_ret
      exact ⟨ret_bool HE.out.symm, rfl⟩
  · have HE : Hid (n6B n = false) := Lib.hid (by simp [n6B]; omega)
    go_enter Try.func35, Try.ntmps35
    go_wp2_with fail
    go_ret
    exact ⟨ret_bool HE.out.symm, rfl⟩
/-- What l7Reduced and l7Behind hand back. -/
def capV (m : Nat) : Int := if m ≤ 1000000000000 then (m : Int) else -1
theorem capV_yes {m : Nat} (h : m ≤ 1000000000000) : capV m = (m : Int) := if_pos h
theorem capV_no {m : Nat} (h : 1000000000000 < m) : capV m = -1 := if_neg (by omega)
set_option maxHeartbeats 800000 in
theorem l7Reduced_any (n L : Nat) (w : World) (h1 : 1 ≤ n) (h6 : n ≤ 6) (hL : L ≤ 100) : Calls Try.prog 24 #[.int .i64 (n : Int), .int .i64 (L : Int)] w fun e w' => e = .returned (.int .i64 (capV (Plain.cntN n L))) ∧ w = w' := by
  cases L with
  | zero =>
    show Calls Try.prog 24 #[.int .i64 (n : Int), .int .i64 0] w _
    go_enter Try.func24, Try.ntmps24
    go_wp2_with fail
    go_ret
    exact ⟨rfl, rfl⟩
  | succ l =>
    have HE : Hid (Plain.cntN n (l + 1) = Plain.manyN n l) := Lib.hid rfl
    obtain ⟨L, hL'⟩ : ∃ L, L = l + 1 := ⟨_, rfl⟩
    rw [← hL'] at HE hL ⊢
    have hL1 : 1 ≤ L := by omega
    have HLL := Lib.hid hL'
    clear hL'
    have hne : ¬ (L : Int) = 0 := by omega
    go_enter Try.func24, Try.ntmps24
    go_wp2_with fail
    go_loop [5, 6] (fun m i => ∃ k : Nat, k + 1 ≤ L ∧ i = .int .i64 ((k : Int) + 1) ∧ m = .int .i64 (Plain.manyN n k : Nat) ∧ Plain.manyN n k ≤ 1000000000000) (fun _ i => L - (intOf i).toNat)
    case atStart => exact ⟨0, hL1, rfl, by simp [Plain.manyN], by simp [Plain.manyN]; omega⟩
    case round =>
      obtain ⟨k, hk, rfl, rfl, hm⟩ := hrel
      have HS := Lib.hid (Plain.manyN_step n k)
      obtain ⟨M', hM'⟩ : ∃ M', M' = Plain.manyN n (k + 1) := ⟨_, rfl⟩
      have HM' := Lib.hid hM'
      rw [← hM'] at HS
      obtain ⟨M, hM⟩ : ∃ M, M = Plain.manyN n k := ⟨_, rfl⟩
      have HM := Lib.hid hM
      rw [← hM] at HS hm ⊢
      clear hM hM'
      by_cases hlt : k + 1 < L
      · have hi : (k : Int) + 1 < (L : Int) := by omega
        have hmul : (M : Int) * (2 * (n : Int) - 1) = (M' : Int) := by
          rw [HS.out, Int.natCast_mul]
          congr 1
          omega
        have hM'l : M' ≤ M * 11 := by rw [HS.out]; exact Nat.mul_le_mul_left _ (by omega)
        by_cases hgt : M' ≤ 1000000000000
        · go_wp2_with fail
          go_round
          case rel => exact ⟨k + 1, by omega, by go_num, by rw [HM'.out], by rw [← HM'.out]; exact hgt⟩
          case measure => simp [intOf]; omega
        · have hbig : (1000000000000 : Int) < (M' : Int) := by omega
          go_wp2_with fail
          go_ret
          refine ⟨ret_int ?_, rfl⟩
          rw [capV_no]
          have := Plain.manyN_le h1 (show k + 1 ≤ l by have := HLL.out; omega)
          rw [← HM'.out] at this
          rw [HE.out]
          omega
      · have hi : ¬ (k : Int) + 1 < (L : Int) := by omega
        go_wp2_with fail
        go_ret
        refine ⟨ret_int ?_, rfl⟩
        obtain rfl : k = l := by have := HLL.out; omega
        rw [HE.out, capV_yes (by rw [← HM.out]; exact hm), HM.out]

set_option maxHeartbeats 800000 in
theorem l7Behind_any (n m : Nat) (w : World) (h1 : 1 ≤ n) (h6 : n ≤ 6) (hL : m ≤ 100) : Calls Try.prog 33 #[.int .i64 (n : Int), .int .i64 (m : Int)] w fun e w' => e = .returned (.int .i64 (capV ((2 * n - 1) ^ m))) ∧ w = w' := by
  obtain ⟨q, hq⟩ : ∃ q, q = 2 * n - 1 := ⟨_, rfl⟩
  rw [← hq]
  have hq1 : 1 ≤ q := by omega
  have hq11 : q ≤ 11 := by omega
  have hqn : (2 * (n : Int) - 1) = (q : Int) := by omega
  have HP : Hid (∀ k, q ^ k ≤ q ^ (k + 1)) := Lib.hid (fun k => by rw [Nat.pow_succ]; exact Nat.le_mul_of_pos_right _ hq1)
  have HPM : Hid (∀ k, k ≤ m → q ^ k ≤ q ^ m) := Lib.hid (fun k hk => Nat.pow_le_pow_right hq1 hk)
  clear hq
  go_enter Try.func33, Try.ntmps33
  go_wp2_with fail
  go_loop [5, 6] (fun v i => ∃ k : Nat, k ≤ m ∧ i = .int .i64 (k : Int) ∧ v = .int .i64 ((q ^ k : Nat) : Int) ∧ q ^ k ≤ 1000000000000) (fun _ i => m - (intOf i).toNat)
  case atStart => exact ⟨0, Nat.zero_le _, rfl, rfl, by simp⟩
  case round =>
    obtain ⟨k, hk, rfl, rfl, hm⟩ := hrel
    have HS : Hid (q ^ (k + 1) = q ^ k * q) := Lib.hid (Nat.pow_succ q k)
    obtain ⟨M', hM'⟩ : ∃ M', M' = q ^ (k + 1) := ⟨_, rfl⟩
    have HM' := Lib.hid hM'
    rw [← hM'] at HS
    obtain ⟨M, hM⟩ : ∃ M, M = q ^ k := ⟨_, rfl⟩
    have HM := Lib.hid hM
    rw [← hM] at HS hm ⊢
    clear hM hM'
    by_cases hlt : k < m
    · have hi : (k : Int) < (m : Int) := by omega
      have hmul : (M : Int) * (2 * (n : Int) - 1) = (M' : Int) := by rw [HS.out, hqn, Int.natCast_mul]
      have hM'l : M' ≤ M * 11 := by rw [HS.out]; exact Nat.mul_le_mul_left _ (by omega)
      clear hqn
      by_cases hgt : M' ≤ 1000000000000
      · go_wp2_with fail
        go_round
        case rel => exact ⟨k + 1, by omega, by go_num, by rw [HM'.out], by rw [← HM'.out]; exact hgt⟩
        case measure => simp [intOf]; omega
      · have hbig : (1000000000000 : Int) < (M' : Int) := by omega
        go_wp2_with fail
        go_ret
        refine ⟨ret_int ?_, rfl⟩
        rw [capV_no]
        have := HPM.out (k + 1) (by omega)
        rw [← HM'.out] at this
        omega
    · have hi : ¬ (k : Int) < (m : Int) := by omega
      clear hqn
      go_wp2_with fail
      go_ret
      refine ⟨ret_int ?_, rfl⟩
      obtain rfl : k = m := by omega
      rw [capV_yes (by rw [← HM.out]; exact hm), HM.out]
theorem cnt_out {n L : Int} (h : ¬ (1 ≤ n ∧ n ≤ 6 ∧ 0 ≤ L ∧ L ≤ 64)) : Plain.cntB n L = false ∧ Plain.cntW n L = 0 ∧ Plain.cycW n L = 0 := by
  have : Plain.cntB n L = false := by rw [Plain.cntB, decide_eq_false h]; rfl
  exact ⟨this, if_neg (by rw [this]; simp), if_neg (by rw [this]; simp)⟩
theorem cnt_in {n L : Nat} (h1 : 1 ≤ n) (h6 : n ≤ 6) (hL : L ≤ 64) : Plain.cntB (n : Int) (L : Int) = Plain.fitB n L := by
  rw [Plain.cntB, decide_eq_true (by omega), Int.toNat_natCast, Int.toNat_natCast]; rfl
theorem cnt_fit {n L : Nat} (h1 : 1 ≤ n) (h6 : n ≤ 6) (hL : L ≤ 64) (h : Plain.cntN n L ≤ 1000000000000) : Plain.cntB (n : Int) (L : Int) = true ∧ Plain.cntW (n : Int) (L : Int) = (Plain.cntN n L : Nat) ∧ Plain.cycW (n : Int) (L : Int) = Plain.cycN n L := by
  have : Plain.cntB (n : Int) (L : Int) = true := by rw [cnt_in h1 h6 hL]; exact decide_eq_true h
  exact ⟨this, by rw [Plain.cntW, if_pos this, Int.toNat_natCast, Int.toNat_natCast], by rw [Plain.cycW, if_pos this, Int.toNat_natCast, Int.toNat_natCast]⟩
theorem cnt_big {n L : Nat} (h1 : 1 ≤ n) (h6 : n ≤ 6) (hL : L ≤ 64) (h : 1000000000000 < Plain.cntN n L) : Plain.cntB (n : Int) (L : Int) = false ∧ Plain.cntW (n : Int) (L : Int) = 0 ∧ Plain.cycW (n : Int) (L : Int) = 0 := by
  have : Plain.cntB (n : Int) (L : Int) = false := by rw [cnt_in h1 h6 hL]; exact decide_eq_false (by omega)
  exact ⟨this, if_neg (by rw [this]; simp), if_neg (by rw [this]; simp)⟩
theorem ret_ib7 {a b : Int} {c d : Bool} (h1 : a = b) (h2 : c = d) : Ending.returned (.tuple #[.int .i64 a, .bool c]) = .returned (.tuple #[.int .i64 b, .bool d]) := by rw [h1, h2]
set_option maxHeartbeats 800000 in
theorem specCountReduced_any (n L : Int) (w : World) (hn : -9223372036854775808 ≤ n ∧ n ≤ 9223372036854775807) (hL : -9223372036854775808 ≤ L ∧ L ≤ 9223372036854775807) :
    Calls Try.prog 8 #[.int .i64 n, .int .i64 L] w fun e w' => e = .returned (.tuple #[.int .i64 (Plain.cntW n L), .bool (Plain.cntB n L)]) ∧ w = w' := by
  by_cases hb : 1 ≤ n ∧ n ≤ 6
  · have HN : Hid (n6B n = true) := Lib.hid (by simp [n6B, hb])
    by_cases hl : 0 ≤ L ∧ L ≤ 64
    · obtain ⟨n, rfl⟩ : ∃ k : Nat, n = (k : Int) := ⟨n.toNat, by omega⟩
      obtain ⟨L, rfl⟩ : ∃ k : Nat, L = (k : Int) := ⟨L.toNat, by omega⟩
      have h1 : 1 ≤ n := by omega
      have h6 : n ≤ 6 := by omega
      have h64 : L ≤ 64 := by omega
      have HD : Hid (decide ((0 : Int) ≤ (L : Int) ∧ (L : Int) ≤ 64) = true) := Lib.hid (by simpa using hl)
      by_cases hf : Plain.cntN n L ≤ 1000000000000
      · obtain ⟨e1, e2, -⟩ := cnt_fit h1 h6 h64 hf
        have E1 := Lib.hid e1
        have E2 := Lib.hid e2
        have HC := Lib.hid (capV_yes hf)
        clear e1 e2
        obtain ⟨M, hM⟩ : ∃ M, M = Plain.cntN n L := ⟨_, rfl⟩
        rw [← hM] at E2 HC hf
        have HM := Lib.hid hM
        clear hM
        go_enter Try.func8, Try.ntmps8
        go_wp2_with fail
        refine (l7Nails_any (n : Int) _ hn).mono ?_
        rw [HN.out]
        rintro e w' ⟨rfl, rfl⟩
        go_wp2_with fail
        refine (l1In_any (L : Int) 0 64 _ hL).mono ?_
        rw [HD.out]
        rintro e w' ⟨rfl, rfl⟩
        go_wp2_with fail
        refine (l7Reduced_any n L _ h1 h6 (by omega)).mono ?_
        rw [← HM.out, HC.out]
        rintro e w' ⟨rfl, rfl⟩
        have hge : ¬ ((M : Int) < 0) := by omega
        go_wp2_with fail
        refine (l7Reduced_any n L _ h1 h6 (by omega)).mono ?_
        rw [← HM.out, HC.out]
        rintro e w' ⟨rfl, rfl⟩
        go_wp2_with fail
        go_ret2
        exact ⟨ret_ib7 E2.out.symm E1.out.symm, rfl⟩
      · obtain ⟨e1, e2, -⟩ := cnt_big h1 h6 h64 (by omega)
        have E1 := Lib.hid e1
        have E2 := Lib.hid e2
        have HC := Lib.hid (capV_no (m := Plain.cntN n L) (by omega))
        clear e1 e2
        go_enter Try.func8, Try.ntmps8
        go_wp2_with fail
        refine (l7Nails_any (n : Int) _ hn).mono ?_
        rw [HN.out]
        rintro e w' ⟨rfl, rfl⟩
        go_wp2_with fail
        refine (l1In_any (L : Int) 0 64 _ hL).mono ?_
        rw [HD.out]
        rintro e w' ⟨rfl, rfl⟩
        go_wp2_with fail
        refine (l7Reduced_any n L _ h1 h6 (by omega)).mono ?_
        rw [HC.out]
        rintro e w' ⟨rfl, rfl⟩
        go_wp2_with fail
        go_ret2
        exact ⟨ret_ib7 E2.out.symm E1.out.symm, rfl⟩
    · obtain ⟨e1, e2, -⟩ := cnt_out (n := n) (L := L) (by omega)
      have E1 := Lib.hid e1
      have E2 := Lib.hid e2
      have HD : Hid (decide ((0 : Int) ≤ L ∧ L ≤ 64) = false) := Lib.hid (by simpa using hl)
      clear e1 e2 hl hb
      go_enter Try.func8, Try.ntmps8
      go_wp2_with fail
      refine (l7Nails_any n _ hn).mono ?_
      rw [HN.out]
      rintro e w' ⟨rfl, rfl⟩
      go_wp2_with fail
      refine (l1In_any L 0 64 _ hL).mono ?_
      rw [HD.out]
      rintro e w' ⟨rfl, rfl⟩
      go_wp2_with fail
      go_ret2
      exact ⟨ret_ib7 E2.out.symm E1.out.symm, rfl⟩
  · obtain ⟨e1, e2, -⟩ := cnt_out (n := n) (L := L) (by omega)
    have E1 := Lib.hid e1
    have E2 := Lib.hid e2
    have HN : Hid (n6B n = false) := Lib.hid (by simp only [n6B, decide_eq_false_iff_not]; exact hb)
    clear e1 e2 hb
    go_enter Try.func8, Try.ntmps8
    go_wp2_with fail
    refine (l7Nails_any n _ hn).mono ?_
    rw [HN.out]
    rintro e w' ⟨rfl, rfl⟩
    go_wp2_with fail
    go_ret2
    exact ⟨ret_ib7 E2.out.symm E1.out.symm, rfl⟩
set_option maxHeartbeats 1600000 in
theorem specCountCyclic_any (n L : Int) (w : World) (hn : -9223372036854775808 ≤ n ∧ n ≤ 9223372036854775807) (hL : -9223372036854775808 ≤ L ∧ L ≤ 9223372036854775807) :
    Calls Try.prog 10 #[.int .i64 n, .int .i64 L] w fun e w' => e = .returned (.tuple #[.int .i64 (Plain.cycW n L), .bool (Plain.cntB n L)]) ∧ w = w' := by
  cases hb : Plain.cntB n L with
  | false =>
    have E2 : Hid (Plain.cycW n L = 0) := Lib.hid (if_neg (by rw [hb]; simp))
    have HB := Lib.hid hb
    clear hb
    go_enter Try.func10, Try.ntmps10
    go_wp2_with fail
    refine (specCountReduced_any n L _ hn hL).mono ?_
    rw [HB.out]
    rintro e w' ⟨rfl, rfl⟩
    go_wp2_with fail
    go_ret2
    exact ⟨ret_ib7 E2.out.symm rfl, rfl⟩
  | true =>
    have hc := hb
    simp only [Plain.cntB, Plain.fitB, Bool.and_eq_true, decide_eq_true_eq] at hc
    obtain ⟨⟨g1, g6, g0, g64⟩, hf⟩ := hc
    obtain ⟨n, rfl⟩ : ∃ k : Nat, n = (k : Int) := ⟨n.toNat, by omega⟩
    obtain ⟨L, rfl⟩ : ∃ k : Nat, L = (k : Int) := ⟨L.toNat, by omega⟩
    rw [Int.toNat_natCast, Int.toNat_natCast] at hf
    have h1 : 1 ≤ n := by omega
    have h6 : n ≤ 6 := by omega
    have h64 : L ≤ 64 := by omega
    have E2 : Hid (Plain.cycW (n : Int) (L : Int) = Plain.cycN n L) := Lib.hid (by rw [Plain.cycW, if_pos hb, Int.toNat_natCast, Int.toNat_natCast])
    have HB := Lib.hid hb
    clear hb g1 g6 g0 g64
    cases L with
    | zero =>
      have hL0 : ((0 : Nat) : Int) = 0 := rfl
      go_enter Try.func10, Try.ntmps10
      go_wp2_with fail
      refine (specCountReduced_any (n : Int) ((0 : Nat) : Int) _ hn hL).mono ?_
      rw [HB.out]
      rintro e w' ⟨rfl, rfl⟩
      go_wp2_with fail
      go_ret2
      exact ⟨ret_ib7 E2.out.symm rfl, rfl⟩
    | succ l =>
      have HF : Hid (∀ k, k ≤ l → Plain.manyN n k ≤ 1000000000000) := Lib.hid (fun k hk => Nat.le_trans (Plain.manyN_le h1 hk) hf)
      have E3 : Hid (Plain.cycN n (l + 1) = 2 * (n : Int) * ((Plain.tri n l).1 + (Plain.tri n l).2.2)) := Lib.hid rfl
      clear hf
      obtain ⟨L, hL'⟩ : ∃ L, L = l + 1 := ⟨_, rfl⟩
      rw [← hL'] at E2 E3 HB hL h64 ⊢
      have hL1 : 1 ≤ L := by omega
      have HLL := Lib.hid hL'
      clear hL'
      have hne : ¬ (L : Int) = 0 := by omega
      go_enter Try.func10, Try.ntmps10
      go_wp2_with fail
      refine (specCountReduced_any (n : Int) (L : Int) _ hn hL).mono ?_
      rw [HB.out]
      rintro e w' ⟨rfl, rfl⟩
      go_wp2_with fail
      go_loop [8, 9, 10, 11] (fun s b o i => ∃ k : Nat, k + 1 ≤ L ∧ i = .int .i64 ((k : Int) + 1) ∧ s = .int .i64 (Plain.tri n k).1 ∧ b = .int .i64 (Plain.tri n k).2.1 ∧ o = .int .i64 (Plain.tri n k).2.2) (fun _ _ _ i => L - (intOf i).toNat)
      case atStart => exact ⟨0, hL1, rfl, rfl, rfl, rfl⟩
      case round =>
        obtain ⟨k, hk, rfl, rfl, rfl, rfl⟩ := hrel
        have hmk := HF.out k (by have := HLL.out; omega)
        obtain ⟨i1, i2, i3, i4, i5⟩ := Plain.tri_inv h1 k
        have HT : Hid (Plain.tri n (k + 1) = ((Plain.tri n k).1 + (Plain.tri n k).2.2, (Plain.tri n k).2.1 + (Plain.tri n k).2.2, (2 * (n : Int) - 2) * ((Plain.tri n k).1 + (Plain.tri n k).2.1) + (2 * (n : Int) - 3) * (Plain.tri n k).2.2)) := Lib.hid rfl
        have HEX : Hid (k = l → 2 * (n : Int) * ((Plain.tri n k).1 + (Plain.tri n k).2.2) = Plain.cycN n L) := Lib.hid (fun e => by rw [E3.out, e])
        obtain ⟨s, hs⟩ : ∃ s, s = (Plain.tri n k).1 := ⟨_, rfl⟩
        obtain ⟨b, hb⟩ : ∃ b, b = (Plain.tri n k).2.1 := ⟨_, rfl⟩
        obtain ⟨o, ho⟩ : ∃ o, o = (Plain.tri n k).2.2 := ⟨_, rfl⟩
        rw [← hs, ← hb, ← ho] at i5 HT ⊢
        rw [← hs, ← ho] at HEX
        rw [← hs] at i1
        rw [← hb] at i2
        rw [← ho] at i3 i4
        clear hs hb ho
        obtain ⟨M, hM⟩ : ∃ M, M = Plain.manyN n k := ⟨_, rfl⟩
        rw [← hM] at hmk i5
        clear hM
        have hq : (s + b + o) ≤ 2 * (n : Int) * (s + b + o) := by
          have : (1 : Int) * (s + b + o) ≤ 2 * (n : Int) * (s + b + o) := Int.mul_le_mul_of_nonneg_right (by omega) (by omega)
          omega
        have hsum : s + b + o ≤ 1000000000000 := by omega
        have p1 : 0 ≤ (2 * (n : Int) - 2) * (s + b) := Int.mul_nonneg (by omega) (by omega)
        have p2 : (2 * (n : Int) - 2) * (s + b) ≤ 10 * (s + b) := Int.mul_le_mul_of_nonneg_right (by omega) (by omega)
        have p3 : -1 * o ≤ (2 * (n : Int) - 3) * o := Int.mul_le_mul_of_nonneg_right (by omega) (by omega)
        have p4 : (2 * (n : Int) - 3) * o ≤ 9 * o := Int.mul_le_mul_of_nonneg_right (by omega) (by omega)
        have p5 : 0 ≤ 2 * (n : Int) * (s + o) := Int.mul_nonneg (by omega) (by omega)
        have p6 : 2 * (n : Int) * (s + o) ≤ 12 * (s + o) := Int.mul_le_mul_of_nonneg_right (by omega) (by omega)
        clear i5 hq i4
        by_cases hlt : k + 1 < L
        · have hi : (k : Int) + 1 < (L : Int) := by omega
          go_wp2_with fail
          go_round
          case rel => exact ⟨k + 1, by omega, by go_num, by rw [HT.out], by rw [HT.out], by rw [HT.out]⟩
          case measure => simp [intOf]; omega
        · have hi : ¬ (k : Int) + 1 < (L : Int) := by omega
          go_wp2_with fail
          go_ret2
          refine ⟨ret_ib7 ?_ rfl, rfl⟩
          rw [E2.out, ← HEX.out (by have := HLL.out; omega)]

end Go.Proofs.Ythamckchfhddjaa
