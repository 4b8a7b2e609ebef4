/- Contracts: impl.firstRankBehind, rankBefore, slices.Index at numbers; spec.l7Rank; RankWord of both. Conditions: numbers of 64 bits, lengths that fit. -/
import Derived.Test.YthamckchfhddjaaWordOf
import Derived.Test.YthamckchfhddjaaBehind
import Derived.Test.YthamckchfhddjaaLessWalks
import Derived.Deep.RegionLaw
namespace Go.Proofs.Ythamckchfhddjaa
open Go.ChangeShapes Go.WideShapes Go.ChangeAt Go.RowKit
set_option linter.unusedVariables false

set_option maxHeartbeats 400000 in
theorem firstR_any (n r : Nat) (w : World) (h1 : 1 ≤ n) (h6 : n ≤ 6) (hr : r ≤ 2000000000000) : Calls Try.prog 30 #[.int .i64 (r : Int), .int .i64 (n : Int)] w fun e w' => e = .returned (.int .i64 (Plain.firstR n r : Nat)) ∧ w' = w := by
  by_cases h0 : r = 0
  · subst h0
    show Calls Try.prog 30 #[.int .i64 0, .int .i64 (n : Int)] w _
    go_enter Try.func30, Try.ntmps30
    go_wp2_with fail
    go_ret
    exact ⟨rfl, rfl⟩
  · have hp := Plain.firstR_pos n (show 1 ≤ r by omega)
    obtain ⟨P, hP⟩ : ∃ P, P = (r - 1) * (2 * n - 1) := ⟨_, rfl⟩
    have hPl : P ≤ (r - 1) * 11 := by rw [hP]; exact Nat.mul_le_mul_left _ (by omega)
    have hmul : ((r : Int) - 1) * (2 * (n : Int) - 1) = (P : Int) := by
      rw [hP, Int.natCast_mul]
      congr 1 <;> omega
    rw [← hP] at hp
    have HP := Lib.hid hp
    have hne : ((r : Int) == 0) = false := by simp; omega
    clear hp hP
    go_enter Try.func30, Try.ntmps30
    go_wp2_with fail
    go_ret
    exact ⟨ret_int (by rw [HP.out]; omega), rfl⟩
set_option maxHeartbeats 400000 in
theorem index_any (a : Option Addr) (cap : Nat) (ls : List Int) (x : Int) (j : Nat) (w : World) (h : Hid (Ints w a ls)) (hn : ls.length ≤ 1048576) (hx : Hid (ls[j]? = some x)) (hno : Hid (∀ (i : Nat) (y : Int), i < j → ls[i]? = some y → y ≠ x)) :
    Calls Try.prog 31 #[.slice a ls.length cap, .int .i64 x] w fun e w' => e = .returned (.int .i64 (j : Int)) ∧ w' = w := by
  have hjl := at_lt hx.out
  go_enter Try.func31, Try.ntmps31
  go_wp2_with fail
  go_loop [5, 8] (fun _ i => ∃ k : Nat, k ≤ j ∧ i = .int .i64 k) (fun _ i => ls.length - (intOf i).toNat)
  case atStart => exact ⟨0, Nat.zero_le _, rfl⟩
  case round =>
    obtain ⟨k, hk, rfl⟩ := hrel
    obtain ⟨y, hy⟩ := at_some ls k (by omega)
    obtain ⟨b, o, rfl, hc⟩ := h.out k y hy
    have hi : (k : Int) < (ls.length : Int) := by omega
    have hi0 : (0 : Int) ≤ (k : Int) := by omega
    by_cases hj : k = j
    · subst hj
      have e1 := hx.out
      rw [hy] at e1
      cases e1
      clear hy
      go_wp2_with fail
      go_ret
      exact ⟨rfl, rfl⟩
    · have hne := hno.out k y (by omega) hy
      have hq : (x == y) = false := by simp; exact fun e => hne e.symm
      clear hy hne
      go_wp2_with fail
      go_round
      case rel => exact ⟨k + 1, by omega, by go_num⟩
      case measure => simp [intOf]; omega
theorem ints_take {w : World} {a : Option Addr} {xs : List Int} (h : Ints w a xs) (k : Nat) : Ints w a (xs.take k) := fun j x hx => by
  have hl := at_lt hx
  simp at hl
  rw [List.getElem?_take_of_lt (by omega)] at hx
  exact h j x hx
theorem fold_keeps (l : List Int) : ∀ (s p : Nat), s.testBit p = true → (l.foldl nailStep s).testBit p = true := by
  induction l with
  | nil => intro s p h; exact h
  | cons x l ih => intro s p h; exact ih _ p (by rw [nailStep, Nat.testBit_or, h]; rfl)
theorem fold_bit {x : Int} (l : List Int) : ∀ s, x ∈ l → (l.foldl nailStep s).testBit ((Plain.nail x).toNat - 1) = true := by
  induction l with
  | nil => intro s h; cases h
  | cons y l ih =>
    intro s h
    rcases List.mem_cons.1 h with rfl | h
    · exact fold_keeps l _ _ (by rw [nailStep, Nat.testBit_or, Nat.testBit_two_pow_self]; simp)
    · exact ih _ h
theorem nailSet_bit {x : Int} {xs : List Int} (h : x ∈ xs) : (nailSet xs).testBit ((Plain.nail x).toNat - 1) = true := fold_bit xs 0 h
/-- What the words of the nails 1..n are. -/
theorem good_of {xs : List Int} {n : Nat} (h : wordOfB xs (n : Int) = true) : Plain.Good n xs ∧ xs.length ≤ 64 ∧ Plain.Letters xs ∧ 1 ≤ n ∧ n ≤ 6 := by
  obtain ⟨h1, h2, h3, h4⟩ := wordOf_word h
  obtain ⟨hl, hL⟩ := Plain.wordB_iff.1 h1
  rw [Int.toNat_natCast] at h4
  simp only [n6B, decide_eq_true_eq] at h3
  refine ⟨fun k x hx => ⟨?_, ?_⟩, hl, hL, by omega, by omega⟩
  · obtain ⟨hx0, hx1, hx2⟩ := hL.at hx
    refine ⟨(Plain.codeOf x).toNat, ?_, (Plain.letter_code hx0).symm⟩
    have hbit : (nailSet xs).testBit ((Plain.nail x).toNat - 1) = true := nailSet_bit (List.mem_of_getElem? hx)
    have hlt : (Plain.nail x).toNat - 1 < n := by
      refine Nat.not_le.1 fun hle => ?_
      have hz := Nat.testBit_lt_two_pow (Nat.lt_of_lt_of_le h4 (Nat.pow_le_pow_right (by decide) hle))
      rw [hz] at hbit
      cases hbit
    unfold Plain.nail at hlt
    unfold Plain.codeOf
    split at hlt <;> split <;> omega
  · cases k with
    | zero => rw [List.take_zero]; exact Plain.stays_nil x
    | succ k =>
      have hk := at_lt hx
      obtain ⟨y, hy⟩ := at_some xs k (by omega)
      have hlen : (xs.take (k + 1)).length = k + 1 := by simp; omega
      have hy' : (xs.take (k + 1))[(xs.take (k + 1)).length - 1]? = some y := by rw [hlen, List.getElem?_take_of_lt (by omega)]; exact hy
      rw [Plain.stays_some hy']
      have hr := (reduced_take_succ hy hx).1 (reduced_part (k := k + 2) (red_iff.1 h2))
      simpa using hr.2

theorem code_nat {x : Int} (h : x ≠ 0) : ∃ c : Nat, Plain.codeOf x = (c : Int) := ⟨(Plain.codeOf x).toNat, by unfold Plain.codeOf; split <;> omega⟩
set_option maxRecDepth 100000 in
set_option maxHeartbeats 4000000 in
theorem l7Rank_any (a : Option Addr) (cap : Nat) (xs : List Int) (n : Nat) (w : World) (h : Hid (Ints w a xs)) (hl : Hid (Plain.Letters xs)) (hn : xs.length ≤ 64) (h1 : 1 ≤ n) (h6 : n ≤ 6) :
    Calls Try.prog 27 #[.slice a xs.length cap, .int .i64 (n : Int)] w (Val (.int .i64 (capV (Plain.rankTo xs n xs.length))) w) := by
  have HBIG : Hid (∀ v : Nat, 1000000000000 < v → v ≤ Plain.rankTo xs n xs.length → (-1 : Int) = capV (Plain.rankTo xs n xs.length)) := Lib.hid (fun v h1 h2 => (capV_no (by omega)).symm)
  go_enter Try.func27, Try.ntmps27
  go_wp2_with fail
  go_loop [5, 6] (fun s i => ∃ j : Nat, j ≤ xs.length ∧ i = .int .i64 j ∧ s = .int .i64 (Plain.below n j : Nat) ∧ Plain.below n j ≤ 1000000000000) (fun _ i => xs.length - (intOf i).toNat)
  case atStart => exact ⟨0, Nat.zero_le _, rfl, rfl, by simp [Plain.below]⟩
  case round =>
    obtain ⟨j, hj, rfl, rfl, hbl⟩ := hrel
    have HS := Lib.hid (Plain.below_step n j)
    have HBR : Hid (j < xs.length → Plain.below n (j + 1) ≤ Plain.rankTo xs n xs.length) := Lib.hid (fun hlt => Plain.below_rank xs n hlt)
    obtain ⟨V, hV⟩ : ∃ V, V = Plain.cntN n j := ⟨_, rfl⟩
    obtain ⟨T, hT⟩ : ∃ T, T = Plain.below n j := ⟨_, rfl⟩
    have HV := Lib.hid hV
    have HT := Lib.hid hT
    rw [← hV, ← hT] at HS
    rw [← hT] at hbl ⊢
    clear hV hT
    by_cases hlt : j < xs.length
    · have hi : (j : Int) < (xs.length : Int) := by omega
      by_cases hfit : V ≤ 1000000000000
      · have HC := Lib.hid (capV_yes hfit)
        by_cases hsum : T + V ≤ 1000000000000
        · go_wp2_with fail
          refine (l7Reduced_any n j _ h1 h6 (by omega)).mono ?_
          rw [← HV.out, HC.out]
          rintro e w' ⟨rfl, rfl⟩
          have q1 : ¬ ((V : Int) < 0) := by omega
          have q2 : ¬ (1000000000000 < (T : Int) + (V : Int)) := by omega
          go_wp2_with fail
          go_round
          case rel => exact ⟨j + 1, by omega, by go_num, by rw [HS.out]; go_num, by rw [HS.out]; exact hsum⟩
          case measure => simp [intOf]; omega
        · go_wp2_with fail
          refine (l7Reduced_any n j _ h1 h6 (by omega)).mono ?_
          rw [← HV.out, HC.out]
          rintro e w' ⟨rfl, rfl⟩
          have q1 : ¬ ((V : Int) < 0) := by omega
          have q2 : (1000000000000 < (T : Int) + (V : Int)) := by omega
          go_wp2_with fail
          go_ret
          exact ⟨ret_int (HBIG.out (T + V) (by omega) (by rw [← HS.out]; exact HBR.out hlt)), Below.refl _ _⟩
      · have HC := Lib.hid (capV_no (m := V) (by omega))
        go_wp2_with fail
        refine (l7Reduced_any n j _ h1 h6 (by omega)).mono ?_
        rw [← HV.out, HC.out]
        rintro e w' ⟨rfl, rfl⟩
        go_wp2_with fail
        go_ret
        exact ⟨ret_int (HBIG.out (T + V) (by omega) (by rw [← HS.out]; exact HBR.out hlt)), Below.refl _ _⟩
    · obtain rfl : j = xs.length := by omega
      have HT2 : Hid (T = Plain.sumTo xs n xs.length 0) := Lib.hid (by rw [HT.out, Plain.sumTo_zero])
      have hi : ¬ (xs.length : Int) < (xs.length : Int) := by omega
      clear HV HT HS HBR
      go_wp2_with fail
      go_loopw [5, 8] (fun s i wr => ∃ i' T : Nat, i' ≤ xs.length ∧ i = .int .i64 i' ∧ s = .int .i64 (T : Int) ∧ T = Plain.sumTo xs n xs.length i' ∧ T ≤ 1000000000000 ∧ Below w.heap.size w wr) (fun _ i _ => xs.length - (intOf i).toNat)
      case atStart => exact ⟨0, T, Nat.zero_le _, rfl, rfl, HT2.out, hbl, Below.refl _ _⟩
      case round =>
        clear HT2 hbl
        obtain ⟨i', T0, hi', rfl, rfl, hT0, hbl, hbw⟩ := hrel
        by_cases hlt2 : i' < xs.length
        · have hB0 := Plain.sumTo_step xs n hlt2
          obtain ⟨x, hx⟩ := at_some xs i' hlt2
          have hgd : xs.getD i' 0 = x := by rw [List.getD_eq_getElem?_getD, hx]; rfl
          have hx0 := hl.out.at hx
          obtain ⟨c, hc⟩ := code_nat hx0.1
          have hxr := hx0.2
          rw [hgd, Plain.placeOf, hc, Int.toNat_natCast] at hB0
          have hsr := Plain.sum_rank xs n (L := xs.length) (i := i' + 1) hlt2
          rw [hB0, ← hT0] at hsr
          rw [← hT0] at hB0
          have hmono : ∀ k, k ≤ c → (Plain.behind (xs.take i') k).length ≤ (Plain.behind (xs.take i') c).length := fun k hk => Plain.behind_len_le _ hk
          have hstep : ∀ k, (Plain.behind (xs.take i') (k + 1)).length = if Plain.stays (xs.take i') (Plain.letterAt k) = true then (Plain.behind (xs.take i') k).length + 1 else (Plain.behind (xs.take i') k).length := fun k => by rw [Plain.behind_step]; split <;> simp
          have hlz : (Plain.behind (xs.take i') 0).length = 0 := rfl
          obtain ⟨P, hP⟩ : ∃ P : Nat → Nat, P = fun k => (Plain.behind (xs.take i') k).length := ⟨_, rfl⟩
          rw [show (Plain.behind (xs.take i') c).length = P c by rw [hP]] at hB0 hsr
          obtain ⟨m, hm⟩ : ∃ m, m = xs.length - 1 - i' := ⟨_, rfl⟩
          rw [← hm] at hB0 hsr
          obtain ⟨B, hBq⟩ : ∃ B, B = (2 * n - 1) ^ m := ⟨_, rfl⟩
          rw [← hBq] at hB0 hsr
          have hP0 : P 0 = 0 := by rw [hP]; rfl
          have HPS : Hid (∀ k, P (k + 1) = if Plain.stays (xs.take i') (Plain.letterAt k) = true then P k + 1 else P k) := Lib.hid (by rw [hP]; exact hstep)
          have HPM : Hid (∀ k, k ≤ c → P k ≤ P c) := Lib.hid (by rw [hP]; exact hmono)
          have HB0 := Lib.hid hB0
          have HSR : Hid (∀ k, k + 1 ≤ c → P (k + 1) = P k + 1 → T0 + P k * B + B ≤ Plain.rankTo xs n xs.length) := Lib.hid (fun k hk e => by
            have h3 := HPM.out (k + 1) hk
            have h4 : P (k + 1) * B ≤ P c * B := Nat.mul_le_mul_right _ h3
            rw [e, Nat.add_mul] at h4
            omega)
          have HBQ := Lib.hid hBq
          have HT0 := Lib.hid hT0
          have HX := Lib.hid hx
          have HC := Lib.hid hc
          have HBW := Lib.hid hbw
          have hi : (i' : Int) < (xs.length : Int) := by omega
          have hmi : (xs.length : Int) - 1 - (i' : Int) = (m : Int) := by omega
          have hm64 : m ≤ 64 := by omega
          have hBc : B ≤ 1000000000000 ∨ 1000000000000 < B := by omega
          have hc12 : c ≤ 11 := by
            have := HC.out
            unfold Plain.codeOf at this
            split at this <;> omega
          clear hB0 hsr hmono hstep hlz hP hm hBq hgd hx0 hc hx hT0 hbw
          go_wp2_with fail
          refine (l7Behind_any n m _ h1 h6 (by omega)).mono ?_
          rw [← HBQ.out]
          rintro e w' ⟨rfl, rfl⟩
          obtain ⟨VB, hVB⟩ : ∃ VB, VB = capV B := ⟨_, rfl⟩
          have HVB := Lib.hid hVB
          rw [← hVB]
          clear hVB hmi hi
          go_wp2_with fail
          go_loopw [5, 10] (fun s k wr => ∃ k' T : Nat, k' ≤ c ∧ k = .int .i64 k' ∧ s = .int .i64 (T : Int) ∧ T = T0 + P k' * B ∧ T ≤ 1000000000000 ∧ Below w.heap.size w wr) (fun _ k _ => c - (intOf k).toNat)
          case atStart => exact ⟨0, T0, Nat.zero_le _, rfl, rfl, by rw [hP0]; simp, hbl, HBW.out⟩
          case round =>
            clear HBW
            obtain ⟨k', T, hk', rfl, rfl, hT, hTl, hbw⟩ := hrel
            obtain ⟨b, o, rfl, hcx⟩ := (h.out.on hbw) i' x HX.out
            have HBW := Lib.hid hbw
            have HT := Lib.hid hT
            clear hT
            have HXR := Lib.hid hxr
            have hii : (i' : Int) < (xs.length : Int) := by omega
            have hii0 : (0 : Int) ≤ (i' : Int) := by omega
            by_cases hlt3 : k' < c
            · have hck : (k' : Int) < (c : Int) := by omega
              have hk12 : k' < 12 := by omega
              by_cases hz : i' = 0
              · have hz' : ¬ ((0 : Int) < (i' : Int)) := by omega
                have hzn : ¬ (0 < i') := by omega
                have hst : Plain.stays (xs.take i') (Plain.letterAt k') = true := by rw [hz, List.take_zero]; rfl
                have hPk : P (k' + 1) = P k' + 1 := by rw [HPS.out, if_pos hst]
                have HRK := Lib.hid (HSR.out k' (by omega) hPk)
                have HPk := Lib.hid hPk
                clear hst hPk hbw hxr hz
                rcases hBc with hBs | hBl
                · have hVe : VB = (B : Int) := by rw [HVB.out, capV_yes hBs]
                  by_cases hsum : T + B ≤ 1000000000000
                  · have q1 : ¬ ((B : Int) < 0) := by omega
                    have q2 : ¬ (1000000000000 < (T : Int) + (B : Int)) := by omega
                    rw [hVe]
                    clear hVe
                    go_wp2_with fail
                    refine (l2Code_any x _ HXR.out).mono ?_
                    rw [HC.out]
                    rintro e w' ⟨rfl, rfl⟩
                    go_wp2_with fail
                    go_quiet (fail)
                    go_wp2_with fail
                    go_roundw
                    case rel => exact ⟨k' + 1, T + B, by omega, by go_num, by go_num, by rw [HPk.out, Nat.add_mul, HT.out]; omega, hsum, below_drewN HBW.out _⟩
                    case measure => simp [intOf]; omega
                  · have q1 : ¬ ((B : Int) < 0) := by omega
                    have q2 : (1000000000000 < (T : Int) + (B : Int)) := by omega
                    rw [hVe]
                    clear hVe
                    go_wp2_with fail
                    refine (l2Code_any x _ HXR.out).mono ?_
                    rw [HC.out]
                    rintro e w' ⟨rfl, rfl⟩
                    go_wp2_with fail
                    go_quiet (fail)
                    go_wp2_with fail
                    go_ret
                    exact ⟨ret_int (HBIG.out (T + B) (by omega) (by rw [HT.out]; exact HRK.out)), below_drewN HBW.out _⟩
                · have hVe : VB = -1 := by rw [HVB.out, capV_no hBl]
                  rw [hVe]
                  clear hVe
                  go_wp2_with fail
                  refine (l2Code_any x _ HXR.out).mono ?_
                  rw [HC.out]
                  rintro e w' ⟨rfl, rfl⟩
                  go_wp2_with fail
                  go_quiet (fail)
                  go_wp2_with fail
                  go_ret
                  exact ⟨ret_int (HBIG.out (T + B) (by omega) (by rw [HT.out]; exact HRK.out)), below_drewN HBW.out _⟩
              · obtain ⟨i2, hi2⟩ : ∃ i2, i' = i2 + 1 := ⟨i' - 1, by omega⟩
                have hmi2 : (i' : Int) - 1 = (i2 : Int) := by omega
                have hz' : (0 : Int) < (i' : Int) := by omega
                have hzn : 0 < i' := by omega
                have hi20 : (0 : Int) ≤ (i2 : Int) := by omega
                have hi2l : (i2 : Int) < (xs.length : Int) := by omega
                obtain ⟨y, hy⟩ := at_some xs i2 (by omega)
                obtain ⟨b2, o2, e2, hcy⟩ := (h.out.on hbw) i2 y hy
                simp only [Option.some.injEq, Addr.mk.injEq, and_true] at e2
                obtain ⟨rfl, rfl⟩ := e2
                have hyr := (hl.out.at hy).2
                have hlen : (xs.take i').length = i' := by simp; omega
                have hyt : (xs.take i')[(xs.take i').length - 1]? = some y := by rw [hlen, show i' - 1 = i2 by omega, List.getElem?_take_of_lt (by omega)]; exact hy
                have hsy := Plain.stays_some hyt (Plain.letterAt k')
                clear hlen hyt hy
                by_cases hey : y = -Plain.letterAt k'
                · have hq : (Plain.letterAt k' == -y) = true := by simp; omega
                  have hst : ¬ Plain.stays (xs.take i') (Plain.letterAt k') = true := by rw [hsy]; simpa using hey
                  have hPk : P (k' + 1) = P k' := by rw [HPS.out, if_neg hst]
                  have HPk := Lib.hid hPk
                  clear hst hPk hsy hey hbw hxr hi2 hz
                  go_wp2_with fail
                  refine (l2Code_any x _ HXR.out).mono ?_
                  rw [HC.out]
                  rintro e w' ⟨rfl, rfl⟩
                  go_wp2_with fail
                  go_quiet ((go_at_call 34; exact Calls.quiet_of_same (l7Letter_any k' _ hk12)))
                  go_wp2_with fail
                  go_roundw
                  case rel => exact ⟨k' + 1, T, by omega, by go_num, rfl, by rw [HPk.out, HT.out], hTl, below_drewN HBW.out _⟩
                  case measure => simp [intOf]; omega
                · have hq : (Plain.letterAt k' == -y) = false := by simp; omega
                  have hst : Plain.stays (xs.take i') (Plain.letterAt k') = true := by rw [hsy]; simpa using hey
                  have hPk : P (k' + 1) = P k' + 1 := by rw [HPS.out, if_pos hst]
                  have HRK := Lib.hid (HSR.out k' (by omega) hPk)
                  have HPk := Lib.hid hPk
                  clear hst hPk hsy hey hbw hxr hi2 hz
                  rcases hBc with hBs | hBl
                  · have hVe : VB = (B : Int) := by rw [HVB.out, capV_yes hBs]
                    by_cases hsum : T + B ≤ 1000000000000
                    · have q1 : ¬ ((B : Int) < 0) := by omega
                      have q2 : ¬ (1000000000000 < (T : Int) + (B : Int)) := by omega
                      rw [hVe]
                      clear hVe
                      go_wp2_with fail
                      refine (l2Code_any x _ HXR.out).mono ?_
                      rw [HC.out]
                      rintro e w' ⟨rfl, rfl⟩
                      go_wp2_with fail
                      go_quiet ((go_at_call 34; exact Calls.quiet_of_same (l7Letter_any k' _ hk12)))
                      go_wp2_with fail
                      go_roundw
                      case rel => exact ⟨k' + 1, T + B, by omega, by go_num, by go_num, by rw [HPk.out, Nat.add_mul, HT.out]; omega, hsum, below_drewN HBW.out _⟩
                      case measure => simp [intOf]; omega
                    · have q1 : ¬ ((B : Int) < 0) := by omega
                      have q2 : (1000000000000 < (T : Int) + (B : Int)) := by omega
                      rw [hVe]
                      clear hVe
                      go_wp2_with fail
                      refine (l2Code_any x _ HXR.out).mono ?_
                      rw [HC.out]
                      rintro e w' ⟨rfl, rfl⟩
                      go_wp2_with fail
                      go_quiet ((go_at_call 34; exact Calls.quiet_of_same (l7Letter_any k' _ hk12)))
                      go_wp2_with fail
                      go_ret
                      exact ⟨ret_int (HBIG.out (T + B) (by omega) (by rw [HT.out]; exact HRK.out)), below_drewN HBW.out _⟩
                  · have hVe : VB = -1 := by rw [HVB.out, capV_no hBl]
                    rw [hVe]
                    clear hVe
                    go_wp2_with fail
                    refine (l2Code_any x _ HXR.out).mono ?_
                    rw [HC.out]
                    rintro e w' ⟨rfl, rfl⟩
                    go_wp2_with fail
                    go_quiet ((go_at_call 34; exact Calls.quiet_of_same (l7Letter_any k' _ hk12)))
                    go_wp2_with fail
                    go_ret
                    exact ⟨ret_int (HBIG.out (T + B) (by omega) (by rw [HT.out]; exact HRK.out)), below_drewN HBW.out _⟩
            · obtain rfl : k' = c := by omega
              have hck : ¬ (k' : Int) < (k' : Int) := by omega
              clear hbw hxr
              go_wp2_with fail
              refine (l2Code_any x _ HXR.out).mono ?_
              rw [HC.out]
              rintro e w' ⟨rfl, rfl⟩
              go_wp2_with fail
              go_roundw
              case rel => exact ⟨i' + 1, T, by omega, by go_num, rfl, by rw [HB0.out, HT.out], hTl, HBW.out⟩
              case measure => simp [intOf]; omega
        · obtain rfl : i' = xs.length := by omega
          have HR : Hid ((T0 : Int) = capV (Plain.rankTo xs n xs.length)) := Lib.hid (by rw [← Plain.sumTo_end, ← hT0, capV_yes hbl])
          have hi : ¬ (xs.length : Int) < (xs.length : Int) := by omega
          have HBW := Lib.hid hbw
          clear hT0 hbw
          go_wp2_with fail
          go_ret
          exact ⟨ret_int HR.out, HBW.out⟩

end Go.Proofs.Ythamckchfhddjaa
