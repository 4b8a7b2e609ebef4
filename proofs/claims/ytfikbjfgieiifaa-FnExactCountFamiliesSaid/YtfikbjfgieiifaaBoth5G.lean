/- Contracts: impl.familyCodes, CountFamilies of both. Condition: numbers of 64 bits. -/
import Derived.Test.YtfikbjfgieiifaaCodes
import Derived.Test.YtfikbjfgieiifaaRange
namespace Go.Proofs.Ytfikbjfgieiifaa
open Go.ChangeShapes Go.WideShapes Go.ChangeAt Go.RowKit
set_option linter.unusedVariables false

theorem U.res_lit (w : World) : U.Res w.heap.size (w.alloc (.cells #[.int .u64 0, .int .u64 1] 54)) (.slice (some ⟨w.heap.size, 0, none⟩) 2 2) [0, 1] := by
  have h := World.ownsRow_lit (base := w.heap.size) (e := 54) (size := 1) w #[.int .u64 0, .int .u64 1] 2 (Nat.le_refl _) (by decide) rfl
  exact U.owns_ints h
theorem U.Res.low {B B' : Nat} {w : World} {v : Value} {xs : List Int} (h : U.Res B w v xs) (hB : B' ≤ B) : U.Res B' w v xs := by
  obtain ⟨a, cap, rfl, h1, h2, h3⟩ := h
  exact ⟨a, cap, rfl, h1, h2.mono hB, h3⟩
set_option maxRecDepth 100000 in
set_option maxHeartbeats 2000000 in
theorem familyCodes_any (n : Nat) (w : World) (hn : n ≤ 4) : Calls Try.prog 38 #[.int .i64 (n : Int)] w (fun e w' => ∃ v, e = .returned v ∧ U.Res w.heap.size w' v (codesAt n) ∧ Below w.heap.size w w') := by
  have HS := Lib.hid (And.intro (U.res_lit w) ((Below.refl w.heap.size w).alloc (Nat.le_refl _) (.cells #[.int .u64 0, .int .u64 1] 54)))
  go_enter Try.func38, Try.ntmps38
  go_wp2_with fail
  obtain ⟨W0, hW0⟩ : ∃ W0, W0 = w.alloc (.cells #[.int .u64 0, .int .u64 1] 54) := ⟨_, rfl⟩
  rw [← hW0] at HS ⊢
  clear hW0
  go_loopw [3, 7] (fun v i wr => ∃ k : Nat, k ≤ n ∧ i = .int .i64 k ∧ U.Res w.heap.size wr v (codesAt k) ∧ Below w.heap.size w wr) (fun _ i _ => n - (intOf i).toNat)
  case atStart => exact ⟨0, Nat.zero_le _, rfl, HS.out⟩
  case round =>
    clear HS
    obtain ⟨k, hk, rfl, ⟨a, c, rfl, hi, ho, hc⟩, hb⟩ := hrel
    have HK := Lib.hid (And.intro hi (And.intro ho (And.intro hc hb)))
    clear hi ho hc hb
    by_cases hlt : k < n
    · have hi1 : (k : Int) < (n : Int) := by omega
      have hi0 : (0 : Int) ≤ (k : Int) := by omega
      have hl := codes_le (k := k) (by omega)
      obtain ⟨P, hP⟩ : ∃ P, P = 2 ^ k := ⟨_, rfl⟩
      have hP8 : P < 64 := by rw [hP]; exact Nat.lt_of_le_of_lt (Nat.pow_le_pow_right (n := 2) (by decide) (show k ≤ 3 by omega)) (by decide)
      have hwp : wrap64 ((2 : Int) ^ k) = (P : Int) := by rw [hP]; exact wrap_pow (by omega)
      have HN : Hid (moreTo (codesAt k) P (codesAt k).length = codesAt (k + 1)) := Lib.hid (by rw [hP]; rfl)
      obtain ⟨C, hC⟩ : ∃ C, C = codesAt k := ⟨_, rfl⟩
      rw [← hC] at HK hl HN ⊢
      have hmin : min k 64 = k := by omega
      clear hC hP
      go_wp2_with fail
      refine (moreCodes_any a c C P _ (Lib.hid HK.out.1) (by omega) hP8).mono ?_
      rw [HN.out]
      rintro e w2 ⟨v, rfl, hr, hb⟩
      have R := Lib.hid (And.intro (hr.low HK.out.2.2.2.size) (HK.out.2.2.2.trans (hb.mono HK.out.2.2.2.size)))
      clear hr hb
      go_wp2_with fail
      go_roundw
      case rel => exact ⟨k + 1, by omega, by go_num, R.out⟩
      case measure => simp [intOf]; omega
    · obtain rfl : k = n := by omega
      go_wp2_with fail
      go_ret
      exact ⟨_, rfl, ⟨_, _, rfl, HK.out.1, HK.out.2.1, HK.out.2.2.1⟩, HK.out.2.2.2⟩
set_option maxRecDepth 100000 in
theorem implCountFamilies_any (n : Int) (w : World) (hr : -9223372036854775808 ≤ n ∧ n ≤ 9223372036854775807) :
    Calls Try.prog 20 #[.int .i64 n] w (Val (.tuple #[.int .i64 (cfV n), .bool (cfB n)]) w) := by
  cases hs : cfB n with
  | false =>
    have HE := Lib.hid (cf_no hs)
    have hn : n < 0 ∨ (0 ≤ n ∧ 4 < n) := by simp only [cfB, decide_eq_false_iff_not] at hs; omega
    clear hs
    rw [HE.out.1]
    rcases hn with hn | ⟨hn0, hn1⟩
    · have hn0 : ¬ (0 ≤ n) := by omega
      go_enter Try.func20, Try.ntmps20
      go_wp2_with fail
      go_ret2
      exact ⟨rfl, Below.refl _ _⟩
    · have hn2 : ¬ (n < 0) := by omega
      go_enter Try.func20, Try.ntmps20
      go_wp2_with fail
      go_ret2
      exact ⟨rfl, Below.refl _ _⟩
  | true =>
    obtain ⟨p, rfl, hp⟩ := cf_nat hs
    have HE := Lib.hid (cf_yes hp)
    clear hs
    rw [HE.out.1]
    have h0 : ¬ ((p : Int) < 0) := by omega
    have h4 : ¬ ((4 : Int) < (p : Int)) := by omega
    have hl := codes_le hp
    have HM := Lib.hid (fun W => familyCodes_any p W hp)
    obtain ⟨C, hC⟩ : ∃ C, C = codesAt p := ⟨_, rfl⟩
    rw [← hC] at HM hl ⊢
    clear hC
    go_enter Try.func20, Try.ntmps20
    go_wp2_with fail
    refine (HM.out _).mono ?_
    rintro e w1 ⟨_, rfl, ⟨a, c, rfl, -, -, -⟩, hb⟩
    have HB := Lib.hid hb
    clear hb
    go_wp2_with fail
    go_ret2
    exact ⟨rfl, HB.out⟩
set_option maxRecDepth 100000 in
set_option maxHeartbeats 1000000 in
theorem specCount0 (w : World) : Calls Try.prog 19 #[.int .i64 0] w (Val (.tuple #[.int .i64 ((codesAt 0).length : Nat), .bool true]) w) := by
  have HE : Hid (((codesAt 0).length : Nat) = upC (risesB 0) 2) := Lib.hid ((codes_at (k := 0) rfl).trans many0.symm)
  rw [HE.out]
  have HC : Hid (∀ (k : Nat) (W : World), k < 65536 → Calls Try.prog 37 #[.int .i64 (k : Int), .int .i64 0] W (fun e w' => e = .returned (.bool (risesB 0 k)) ∧ w' = W)) := Lib.hid (fun k W h => l5Rises_any k 0 W h (by decide))
  obtain ⟨f, hf⟩ : ∃ f, f = risesB 0 := ⟨_, rfl⟩
  rw [← hf] at HC ⊢
  clear hf HE
  have HI := Lib.hid (fun W => l1In_any 0 0 4 W (by decide))
  rw [show decide ((0 : Int) ≤ 0 ∧ (0 : Int) ≤ 4) = true from by decide] at HI
  go_enter Try.func19, Try.ntmps19
  go_wp2_with fail
  refine (HI.out _).mono ?_
  rintro e w' ⟨rfl, rfl⟩
  go_wp2_with fail
  go_loopw [4, 5] (fun m i wr => ∃ k : Nat, k ≤ 2 ∧ i = .int .i64 k ∧ m = .int .i64 (upC f k : Nat) ∧ wr = w) (fun _ i _ => 2 - (intOf i).toNat)
  case atStart => exact ⟨0, Nat.zero_le _, rfl, rfl, rfl⟩
  case round =>
    obtain ⟨k, hk, rfl, rfl, rfl⟩ := hrel
    have hul := upC_le f k
    by_cases hlt : k < 2
    · have hi : (k : Int) < 2 := by omega
      have hi0 : (0 : Int) ≤ (k : Int) := by omega
      go_wp2_with fail
      refine (HC.out k _ (by omega)).mono ?_
      cases hb : f k with
      | true =>
        have HU := Lib.hid (upC_in hb)
        clear hb
        rintro e w' ⟨rfl, rfl⟩
        obtain ⟨m, hm⟩ : ∃ m, m = upC f k := ⟨_, rfl⟩
        rw [← hm] at HU hul ⊢
        clear hm
        go_wp2_with fail
        go_roundw
        case rel => exact ⟨k + 1, by omega, by go_num, by rw [HU.out]; go_num, (by first | trivial | rfl)⟩
        case measure => simp [intOf]; omega
      | false =>
        have HU := Lib.hid (upC_out hb)
        clear hb
        rintro e w' ⟨rfl, rfl⟩
        go_wp2_with fail
        go_roundw
        case rel => exact ⟨k + 1, by omega, by go_num, by rw [HU.out], (by first | trivial | rfl)⟩
        case measure => simp [intOf]; omega
    · have hke : k = 2 := by omega
      have hi : ¬ ((k : Int) < 2) := by omega
      have HKE := Lib.hid hke
      clear hke
      go_wp2_with fail
      go_ret2
      exact ⟨by rw [HKE.out]; rfl, Below.refl _ _⟩
set_option maxRecDepth 100000 in
set_option maxHeartbeats 1000000 in
theorem specCount1 (w : World) : Calls Try.prog 19 #[.int .i64 1] w (Val (.tuple #[.int .i64 ((codesAt 1).length : Nat), .bool true]) w) := by
  have HE : Hid (((codesAt 1).length : Nat) = upC (risesB 1) 4) := Lib.hid ((codes_at (k := 1) rfl).trans many1.symm)
  rw [HE.out]
  have HC : Hid (∀ (k : Nat) (W : World), k < 65536 → Calls Try.prog 37 #[.int .i64 (k : Int), .int .i64 1] W (fun e w' => e = .returned (.bool (risesB 1 k)) ∧ w' = W)) := Lib.hid (fun k W h => l5Rises_any k 1 W h (by decide))
  obtain ⟨f, hf⟩ : ∃ f, f = risesB 1 := ⟨_, rfl⟩
  rw [← hf] at HC ⊢
  clear hf HE
  have HI := Lib.hid (fun W => l1In_any 1 0 4 W (by decide))
  rw [show decide ((0 : Int) ≤ 1 ∧ (1 : Int) ≤ 4) = true from by decide] at HI
  go_enter Try.func19, Try.ntmps19
  go_wp2_with fail
  refine (HI.out _).mono ?_
  rintro e w' ⟨rfl, rfl⟩
  go_wp2_with fail
  go_loopw [4, 5] (fun m i wr => ∃ k : Nat, k ≤ 4 ∧ i = .int .i64 k ∧ m = .int .i64 (upC f k : Nat) ∧ wr = w) (fun _ i _ => 4 - (intOf i).toNat)
  case atStart => exact ⟨0, Nat.zero_le _, rfl, rfl, rfl⟩
  case round =>
    obtain ⟨k, hk, rfl, rfl, rfl⟩ := hrel
    have hul := upC_le f k
    by_cases hlt : k < 4
    · have hi : (k : Int) < 4 := by omega
      have hi0 : (0 : Int) ≤ (k : Int) := by omega
      go_wp2_with fail
      refine (HC.out k _ (by omega)).mono ?_
      cases hb : f k with
      | true =>
        have HU := Lib.hid (upC_in hb)
        clear hb
        rintro e w' ⟨rfl, rfl⟩
        obtain ⟨m, hm⟩ : ∃ m, m = upC f k := ⟨_, rfl⟩
        rw [← hm] at HU hul ⊢
        clear hm
        go_wp2_with fail
        go_roundw
        case rel => exact ⟨k + 1, by omega, by go_num, by rw [HU.out]; go_num, (by first | trivial | rfl)⟩
        case measure => simp [intOf]; omega
      | false =>
        have HU := Lib.hid (upC_out hb)
        clear hb
        rintro e w' ⟨rfl, rfl⟩
        go_wp2_with fail
        go_roundw
        case rel => exact ⟨k + 1, by omega, by go_num, by rw [HU.out], (by first | trivial | rfl)⟩
        case measure => simp [intOf]; omega
    · have hke : k = 4 := by omega
      have hi : ¬ ((k : Int) < 4) := by omega
      have HKE := Lib.hid hke
      clear hke
      go_wp2_with fail
      go_ret2
      exact ⟨by rw [HKE.out]; rfl, Below.refl _ _⟩
set_option maxRecDepth 100000 in
set_option maxHeartbeats 1000000 in
theorem specCount2 (w : World) : Calls Try.prog 19 #[.int .i64 2] w (Val (.tuple #[.int .i64 ((codesAt 2).length : Nat), .bool true]) w) := by
  have HE : Hid (((codesAt 2).length : Nat) = upC (risesB 2) 16) := Lib.hid ((codes_at (k := 2) rfl).trans many2.symm)
  rw [HE.out]
  have HC : Hid (∀ (k : Nat) (W : World), k < 65536 → Calls Try.prog 37 #[.int .i64 (k : Int), .int .i64 2] W (fun e w' => e = .returned (.bool (risesB 2 k)) ∧ w' = W)) := Lib.hid (fun k W h => l5Rises_any k 2 W h (by decide))
  obtain ⟨f, hf⟩ : ∃ f, f = risesB 2 := ⟨_, rfl⟩
  rw [← hf] at HC ⊢
  clear hf HE
  have HI := Lib.hid (fun W => l1In_any 2 0 4 W (by decide))
  rw [show decide ((0 : Int) ≤ 2 ∧ (2 : Int) ≤ 4) = true from by decide] at HI
  go_enter Try.func19, Try.ntmps19
  go_wp2_with fail
  refine (HI.out _).mono ?_
  rintro e w' ⟨rfl, rfl⟩
  go_wp2_with fail
  go_loopw [4, 5] (fun m i wr => ∃ k : Nat, k ≤ 16 ∧ i = .int .i64 k ∧ m = .int .i64 (upC f k : Nat) ∧ wr = w) (fun _ i _ => 16 - (intOf i).toNat)
  case atStart => exact ⟨0, Nat.zero_le _, rfl, rfl, rfl⟩
  case round =>
    obtain ⟨k, hk, rfl, rfl, rfl⟩ := hrel
    have hul := upC_le f k
    by_cases hlt : k < 16
    · have hi : (k : Int) < 16 := by omega
      have hi0 : (0 : Int) ≤ (k : Int) := by omega
      go_wp2_with fail
      refine (HC.out k _ (by omega)).mono ?_
      cases hb : f k with
      | true =>
        have HU := Lib.hid (upC_in hb)
        clear hb
        rintro e w' ⟨rfl, rfl⟩
        obtain ⟨m, hm⟩ : ∃ m, m = upC f k := ⟨_, rfl⟩
        rw [← hm] at HU hul ⊢
        clear hm
        go_wp2_with fail
        go_roundw
        case rel => exact ⟨k + 1, by omega, by go_num, by rw [HU.out]; go_num, (by first | trivial | rfl)⟩
        case measure => simp [intOf]; omega
      | false =>
        have HU := Lib.hid (upC_out hb)
        clear hb
        rintro e w' ⟨rfl, rfl⟩
        go_wp2_with fail
        go_roundw
        case rel => exact ⟨k + 1, by omega, by go_num, by rw [HU.out], (by first | trivial | rfl)⟩
        case measure => simp [intOf]; omega
    · have hke : k = 16 := by omega
      have hi : ¬ ((k : Int) < 16) := by omega
      have HKE := Lib.hid hke
      clear hke
      go_wp2_with fail
      go_ret2
      exact ⟨by rw [HKE.out]; rfl, Below.refl _ _⟩
set_option maxRecDepth 100000 in
set_option maxHeartbeats 1000000 in
theorem specCount3 (w : World) : Calls Try.prog 19 #[.int .i64 3] w (Val (.tuple #[.int .i64 ((codesAt 3).length : Nat), .bool true]) w) := by
  have HE : Hid (((codesAt 3).length : Nat) = upC (risesB 3) 256) := Lib.hid ((codes_at (k := 3) rfl).trans many3.symm)
  rw [HE.out]
  have HC : Hid (∀ (k : Nat) (W : World), k < 65536 → Calls Try.prog 37 #[.int .i64 (k : Int), .int .i64 3] W (fun e w' => e = .returned (.bool (risesB 3 k)) ∧ w' = W)) := Lib.hid (fun k W h => l5Rises_any k 3 W h (by decide))
  obtain ⟨f, hf⟩ : ∃ f, f = risesB 3 := ⟨_, rfl⟩
  rw [← hf] at HC ⊢
  clear hf HE
  have HI := Lib.hid (fun W => l1In_any 3 0 4 W (by decide))
  rw [show decide ((0 : Int) ≤ 3 ∧ (3 : Int) ≤ 4) = true from by decide] at HI
  go_enter Try.func19, Try.ntmps19
  go_wp2_with fail
  refine (HI.out _).mono ?_
  rintro e w' ⟨rfl, rfl⟩
  go_wp2_with fail
  go_loopw [4, 5] (fun m i wr => ∃ k : Nat, k ≤ 256 ∧ i = .int .i64 k ∧ m = .int .i64 (upC f k : Nat) ∧ wr = w) (fun _ i _ => 256 - (intOf i).toNat)
  case atStart => exact ⟨0, Nat.zero_le _, rfl, rfl, rfl⟩
  case round =>
    obtain ⟨k, hk, rfl, rfl, rfl⟩ := hrel
    have hul := upC_le f k
    by_cases hlt : k < 256
    · have hi : (k : Int) < 256 := by omega
      have hi0 : (0 : Int) ≤ (k : Int) := by omega
      go_wp2_with fail
      refine (HC.out k _ (by omega)).mono ?_
      cases hb : f k with
      | true =>
        have HU := Lib.hid (upC_in hb)
        clear hb
        rintro e w' ⟨rfl, rfl⟩
        obtain ⟨m, hm⟩ : ∃ m, m = upC f k := ⟨_, rfl⟩
        rw [← hm] at HU hul ⊢
        clear hm
        go_wp2_with fail
        go_roundw
        case rel => exact ⟨k + 1, by omega, by go_num, by rw [HU.out]; go_num, (by first | trivial | rfl)⟩
        case measure => simp [intOf]; omega
      | false =>
        have HU := Lib.hid (upC_out hb)
        clear hb
        rintro e w' ⟨rfl, rfl⟩
        go_wp2_with fail
        go_roundw
        case rel => exact ⟨k + 1, by omega, by go_num, by rw [HU.out], (by first | trivial | rfl)⟩
        case measure => simp [intOf]; omega
    · have hke : k = 256 := by omega
      have hi : ¬ ((k : Int) < 256) := by omega
      have HKE := Lib.hid hke
      clear hke
      go_wp2_with fail
      go_ret2
      exact ⟨by rw [HKE.out]; rfl, Below.refl _ _⟩
set_option maxRecDepth 100000 in
set_option maxHeartbeats 1000000 in
theorem specCount4 (w : World) : Calls Try.prog 19 #[.int .i64 4] w (Val (.tuple #[.int .i64 ((codesAt 4).length : Nat), .bool true]) w) := by
  have HE : Hid (((codesAt 4).length : Nat) = upC (risesB 4) 65536) := Lib.hid ((codes_at (k := 4) rfl).trans many4.symm)
  rw [HE.out]
  have HC : Hid (∀ (k : Nat) (W : World), k < 65536 → Calls Try.prog 37 #[.int .i64 (k : Int), .int .i64 4] W (fun e w' => e = .returned (.bool (risesB 4 k)) ∧ w' = W)) := Lib.hid (fun k W h => l5Rises_any k 4 W h (by decide))
  obtain ⟨f, hf⟩ : ∃ f, f = risesB 4 := ⟨_, rfl⟩
  rw [← hf] at HC ⊢
  clear hf HE
  have HI := Lib.hid (fun W => l1In_any 4 0 4 W (by decide))
  rw [show decide ((0 : Int) ≤ 4 ∧ (4 : Int) ≤ 4) = true from by decide] at HI
  go_enter Try.func19, Try.ntmps19
  go_wp2_with fail
  refine (HI.out _).mono ?_
  rintro e w' ⟨rfl, rfl⟩
  go_wp2_with fail
  go_loopw [4, 5] (fun m i wr => ∃ k : Nat, k ≤ 65536 ∧ i = .int .i64 k ∧ m = .int .i64 (upC f k : Nat) ∧ wr = w) (fun _ i _ => 65536 - (intOf i).toNat)
  case atStart => exact ⟨0, Nat.zero_le _, rfl, rfl, rfl⟩
  case round =>
    obtain ⟨k, hk, rfl, rfl, rfl⟩ := hrel
    have hul := upC_le f k
    by_cases hlt : k < 65536
    · have hi : (k : Int) < 65536 := by omega
      have hi0 : (0 : Int) ≤ (k : Int) := by omega
      go_wp2_with fail
      refine (HC.out k _ (by omega)).mono ?_
      cases hb : f k with
      | true =>
        have HU := Lib.hid (upC_in hb)
        clear hb
        rintro e w' ⟨rfl, rfl⟩
        obtain ⟨m, hm⟩ : ∃ m, m = upC f k := ⟨_, rfl⟩
        rw [← hm] at HU hul ⊢
        clear hm
        go_wp2_with fail
        go_roundw
        case rel => exact ⟨k + 1, by omega, by go_num, by rw [HU.out]; go_num, (by first | trivial | rfl)⟩
        case measure => simp [intOf]; omega
      | false =>
        have HU := Lib.hid (upC_out hb)
        clear hb
        rintro e w' ⟨rfl, rfl⟩
        go_wp2_with fail
        go_roundw
        case rel => exact ⟨k + 1, by omega, by go_num, by rw [HU.out], (by first | trivial | rfl)⟩
        case measure => simp [intOf]; omega
    · have hke : k = 65536 := by omega
      have hi : ¬ ((k : Int) < 65536) := by omega
      have HKE := Lib.hid hke
      clear hke
      go_wp2_with fail
      go_ret2
      exact ⟨by rw [HKE.out]; rfl, Below.refl _ _⟩
set_option maxRecDepth 100000 in
theorem specCountFamilies_any (n : Int) (w : World) (hr : -9223372036854775808 ≤ n ∧ n ≤ 9223372036854775807) :
    Calls Try.prog 19 #[.int .i64 n] w (Val (.tuple #[.int .i64 (cfV n), .bool (cfB n)]) w) := by
  cases hs : cfB n with
  | false =>
    have HE := Lib.hid (cf_no hs)
    have HN := Lib.hid hs
    have HR := Lib.hid hr
    rw [HE.out.1]
    clear hs hr
    go_enter Try.func19, Try.ntmps19
    go_wp2_with fail
    refine (l1In_any n 0 4 _ HR.out).mono ?_
    rw [show decide (0 ≤ n ∧ n ≤ 4) = _ from HN.out]
    rintro e w' ⟨rfl, rfl⟩
    go_wp2_with fail
    go_ret2
    exact ⟨rfl, Below.refl _ _⟩
  | true =>
    obtain ⟨p, rfl, hp⟩ := cf_nat hs
    rw [(cf_yes hp).1]
    clear hs
    have : p = 0 ∨ p = 1 ∨ p = 2 ∨ p = 3 ∨ p = 4 := by omega
    rcases this with rfl | rfl | rfl | rfl | rfl
    · exact specCount0 w
    · exact specCount1 w
    · exact specCount2 w
    · exact specCount3 w
    · exact specCount4 w
theorem bothCountFamilies (n : Int) (h1 : -9223372036854775808 ≤ n) (h2 : n ≤ 9223372036854775807) : ∃ (m : Int) (b : Bool),
    (∀ w, Calls Try.prog 19 #[.int .i64 n] w (Val (.tuple #[.int .i64 m, .bool b]) w)) ∧
    (∀ w, Calls Try.prog 20 #[.int .i64 n] w (Val (.tuple #[.int .i64 m, .bool b]) w)) :=
  ⟨_, _, fun w => specCountFamilies_any n w ⟨h1, h2⟩, fun w => implCountFamilies_any n w ⟨h1, h2⟩⟩

end Go.Proofs.Ytfikbjfgieiifaa
