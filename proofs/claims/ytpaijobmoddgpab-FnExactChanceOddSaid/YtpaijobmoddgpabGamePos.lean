/- Contracts: impl's isNail, firstNails, positionOf. Conditions: numbers of 64 bits, lengths that fit. -/
import Derived.Test.YtpaijobmoddgpabGameNails
import Derived.Test.YtpaijobmoddgpabEdgeKit
namespace Go.Proofs.Ytpaijobmoddgpab
open Go.ChangeShapes Go.WideShapes Go.ChangeAt Go.RowKit
set_option linter.unusedVariables false

theorem wrap_zero {u : Nat} (h : u < 18446744073709551616) : IntKind.i64.wrap (u : Int) = 0 ↔ u = 0 := by
  have e : IntKind.i64.wrap (u : Int) = if (u : Int) % 18446744073709551616 ≥ 9223372036854775808 then (u : Int) % 18446744073709551616 - 18446744073709551616 else (u : Int) % 18446744073709551616 := by
    unfold IntKind.wrap
    simp [IntKind.bits, IntKind.signed]
  rw [e]
  split <;> omega
theorem partZ_iff {x : Int} {m n : Nat} (h : -9223372036854775808 ≤ x ∧ x ≤ 9223372036854775807) (hn : n ≤ 6) (hm : m + 1 = 2 ^ n) : partZ x m = true ↔ 0 ≤ x ∧ x ≤ (m : Int) := by
  have hm64 : m < 64 := by
    have : 2 ^ n ≤ 2 ^ 6 := Nat.pow_le_pow_right (by omega) hn
    omega
  unfold partZ
  rw [beq_iff_eq]
  show IntKind.i64.wrap (((BitVec.ofInt 64 x &&& ~~~(BitVec.ofInt 64 (m : Int))).toNat : Nat) : Int) = 0 ↔ _
  rw [wrap_zero (BitVec.isLt _)]
  have hx : (BitVec.ofInt 64 x).toNat = (x % 18446744073709551616).toNat := by rw [BitVec.toNat_ofInt]; rfl
  have hmm : (BitVec.ofInt 64 (m : Int)).toNat = m := by rw [BitVec.toNat_ofInt]; omega
  have hz : (BitVec.ofInt 64 x &&& ~~~(BitVec.ofInt 64 (m : Int))).toNat = 0 ↔ (BitVec.ofInt 64 x).toNat < 2 ^ n := by
    constructor
    · intro h0
      refine Nat.lt_pow_two_of_testBit _ fun i hi => ?_
      have h1 : (BitVec.ofInt 64 x &&& ~~~(BitVec.ofInt 64 (m : Int))) = 0#64 := BitVec.eq_of_toNat_eq h0
      have h2 := congrArg (fun b => b.getLsbD i) h1
      simp only [BitVec.getLsbD_and, BitVec.getLsbD_not, BitVec.getLsbD_zero] at h2
      by_cases hi64 : i < 64
      · have h3 : (BitVec.ofInt 64 (m : Int)).getLsbD i = false := by
          rw [BitVec.getLsbD, hmm]
          exact Nat.testBit_lt_two_pow (Nat.lt_of_lt_of_le (by omega) (Nat.pow_le_pow_right (by omega) hi))
        rw [h3] at h2
        simpa [hi64, BitVec.getLsbD] using h2
      · exact Nat.testBit_lt_two_pow (Nat.lt_of_lt_of_le (BitVec.isLt _) (Nat.pow_le_pow_right (by omega) (by omega)))
    · intro h0
      have h1 : (BitVec.ofInt 64 x &&& ~~~(BitVec.ofInt 64 (m : Int))) = 0#64 := by
        refine BitVec.eq_of_getLsbD_eq fun i hi => ?_
        simp only [BitVec.getLsbD_and, BitVec.getLsbD_not, BitVec.getLsbD_zero]
        by_cases hin : i < n
        · have h3 : (BitVec.ofInt 64 (m : Int)).getLsbD i = true := by
            rw [BitVec.getLsbD, hmm, show m = 2 ^ n - 1 by omega, Nat.testBit_two_pow_sub_one]
            simpa using hin
          rw [h3]; simp
        · have h3 : (BitVec.ofInt 64 x).getLsbD i = false := by
            rw [BitVec.getLsbD]
            exact Nat.testBit_lt_two_pow (Nat.lt_of_lt_of_le h0 (Nat.pow_le_pow_right (by omega) (by omega)))
          rw [h3]; simp
      rw [h1]; rfl
  rw [hz, hx]
  have h64 : (2 : Nat) ^ n = m + 1 := hm.symm
  omega
theorem isNail9_any (n : Int) (w : World) : Calls Try.prog 40 #[.int .i64 n] w fun e w' => e = .returned (.bool (decide (1 ≤ n ∧ n ≤ 6))) ∧ w = w' := by
  by_cases h0 : 1 ≤ n
  · by_cases h1 : n ≤ 6
    · have HE : Hid (decide (1 ≤ n ∧ n ≤ 6) = true) := Lib.hid (by simp; omega)
      go_enter Try.func40, Try.ntmps40
      go_wp2_with fail
      go_ret
      exact ⟨ret_bool (by rw [Bool.eq_iff_iff]; simp; try omega), rfl⟩
    · have HE : Hid (decide (1 ≤ n ∧ n ≤ 6) = false) := Lib.hid (by simp; omega)
      go_enter Try.func40, Try.ntmps40
      go_wp2_with fail
      go_ret
      exact ⟨ret_bool (by rw [Bool.eq_iff_iff]; simp; try omega), rfl⟩
  · have HE : Hid (decide (1 ≤ n ∧ n ≤ 6) = false) := Lib.hid (by simp; omega)
    go_enter Try.func40, Try.ntmps40
    go_wp2_with fail
    go_ret
    exact ⟨ret_bool (by rw [Bool.eq_iff_iff]; simp; try omega), rfl⟩
theorem pow9_m {n m : Nat} (hn : n ≤ 6) (hm : m + 1 = 2 ^ n) : (2 : Int) ^ n - 1 = (m : Int) ∧ m < 64 := by
  have h2 : 2 ^ n ≤ 2 ^ 6 := Nat.pow_le_pow_right (by omega) hn
  refine ⟨?_, by omega⟩
  rw [pow_nat, ← hm]; push_cast; omega
theorem first9_any (n m : Nat) (w : World) (hn : n ≤ 6) (hm : m + 1 = 2 ^ n) : Calls Try.prog 52 #[.int .i64 (n : Int)] w fun e w' => e = .returned (.int .i64 (m : Int)) ∧ w' = w := by
  have h2 : n = 0 ∨ n = 1 ∨ n = 2 ∨ n = 3 ∨ n = 4 ∨ n = 5 ∨ n = 6 := by omega
  obtain rfl | rfl | rfl | rfl | rfl | rfl | rfl := h2
  all_goals
    obtain rfl : m = _ := Nat.succ.inj hm
    go_enter Try.func52, Try.ntmps52
    go_wp2_with fail
    go_ret
    exact ⟨rfl, rfl⟩
/-- A word, a number of nails and a set that are valid. -/
def goodB (xs : List Int) (n s : Int) : Bool := Plain.wordB xs && decide (1 ≤ n ∧ n ≤ 6) && decide (0 ≤ s ∧ s < 2 ^ n.toNat)
/-- A position that is not ended, of a game that ends. -/
def gameB (xs : List Int) (n s : Int) : Bool := goodB xs n s && Plain.fallsB xs (2 ^ n.toNat - 1) && !Plain.fallsB xs s.toNat
/-- What positionOf hands back. -/
def posV2 (xs : List Int) (n s : Int) : Value := if gameB xs n s = true then .tuple #[.agg (posC (Plain.fallsB xs) (2 ^ n.toNat - 1) s.toNat), .bool true] else .tuple #[.agg (posC (fun _ => false) 0 0), .bool false]
set_option maxRecDepth 100000 in
set_option maxHeartbeats 3200000 in
theorem positionOf_any (a : Option Addr) (cap : Nat) (xs : List Int) (n s : Int) (w : World) (h : Hid (Ints w a xs)) (h64 : Hid (In64 xs)) (hl : xs.length ≤ 9223372036854775807) (hs : -9223372036854775808 ≤ s ∧ s ≤ 9223372036854775807) :
    Calls Try.prog 23 #[.slice a xs.length cap, .int .i64 n, .int .i64 s] w (Val (posV2 xs n s) w) := by
  obtain ⟨W, hW⟩ : ∃ W, W = w.alloc (.cells (posC (fun _ => false) 0 0) 41) := ⟨_, rfl⟩
  have HP : Hid (PosAt W w.heap.size (fun _ => false) 0 0) := Lib.hid (by rw [hW]; exact posAt_new w _ _ _)
  have HB : Hid (Below w.heap.size w W) := Lib.hid (by rw [hW]; exact (Below.refl _ _).alloc (Nat.le_refl _) _)
  have HI : Hid (Ints W a xs) := Lib.hid (h.out.on HB.out)
  rw [posZ_zero] at hW
  cases hw : Plain.wordB xs with
  | false =>
    have HE : Hid (posV2 xs n s = .tuple #[.agg (posC (fun _ => false) 0 0), .bool false]) := Lib.hid (if_neg (by unfold gameB goodB; rw [hw]; simp))
    have HWB := Lib.hid hw
    clear hw
    have HZI : Hid ((Try.prog.info? 41).map (·.size) = some (Try.zeroCells41).size) := Lib.hid (by rw [← posZ_zero]; exact infoPosC _ _ _)
    go_enter Try.func23, Try.ntmps23
    go_wp2_with fail
    rw [← hW]
    clear hW
    refine (isWord_any a cap xs _ HI h64 hl).mono ?_
    rw [HWB.out]
    rintro e w' ⟨rfl, rfl⟩
    go_wp2_with (first | (refine wpList_store_row rfl 41 _ _ rfl w.heap.size Try.zeroCells41 rfl rfl 41 _ HP.out HZI.out (by rw [← posZ_zero]) (by rw [← posZ_zero]; exact posC_one _ _ _) ?_))
    rw [← posZ_zero]
    have M := posAt_row (t := fun _ => false) (m := 0) (s := 0) HP.out
    rw [HE.out]
    exact bodyPost_ret (results_tab2 rfl _ _ w.heap.size (posC (fun _ => false) 0 0) rfl (pos_load M)) rfl ⟨rfl, below_setRow HB.out (Nat.le_refl _) _⟩
  | true =>
    have HWB := Lib.hid hw
    by_cases hn : 1 ≤ n ∧ n ≤ 6
    · obtain ⟨N, rfl⟩ : ∃ N : Nat, n = (N : Int) := ⟨n.toNat, by omega⟩
      have hN : 1 ≤ N ∧ N ≤ 6 := by omega
      obtain ⟨m, hm⟩ : ∃ m, m + 1 = 2 ^ N := ⟨2 ^ N - 1, by have := Nat.two_pow_pos N; omega⟩
      obtain ⟨hpow, hm64⟩ := pow9_m hN.2 hm
      have hdec : decide (1 ≤ (N : Int) ∧ (N : Int) ≤ 6) = true := by simp; omega
      have HD := Lib.hid hdec
      have HM := Lib.hid hm
      cases hp : partZ s m with
      | false =>
        have hp2 : ¬ (0 ≤ s ∧ s ≤ (m : Int)) := fun e => by rw [(partZ_iff hs hN.2 hm).2 e] at hp; cases hp
        have HPT := Lib.hid hp
        have HE : Hid (posV2 xs (N : Int) s = .tuple #[.agg (posC (fun _ => false) 0 0), .bool false]) := Lib.hid (if_neg (by unfold gameB goodB; rw [Int.toNat_natCast, pow_nat, ← hm]; simp; omega))
        clear hp hp2 hm hdec hw
        have HZI : Hid ((Try.prog.info? 41).map (·.size) = some (Try.zeroCells41).size) := Lib.hid (by rw [← posZ_zero]; exact infoPosC _ _ _)
        go_enter Try.func23, Try.ntmps23
        go_wp2_with fail
        rw [← hW]
        clear hW
        refine (isWord_any a cap xs _ HI h64 hl).mono ?_
        rw [HWB.out]
        rintro e w' ⟨rfl, rfl⟩
        go_wp2_with (first | (refine wpList_store_row rfl 41 _ _ rfl w.heap.size Try.zeroCells41 rfl rfl 41 _ HP.out HZI.out (by rw [← posZ_zero]) (by rw [← posZ_zero]; exact posC_one _ _ _) ?_))
        refine (isNail9_any _ _).mono ?_
        rw [HD.out]
        rintro e w' ⟨rfl, rfl⟩
        go_wp2_with (first | (refine wpList_store_row rfl 41 _ _ rfl w.heap.size Try.zeroCells41 rfl rfl 41 _ HP.out HZI.out (by rw [← posZ_zero]) (by rw [← posZ_zero]; exact posC_one _ _ _) ?_))
        refine (first9_any N m _ (by omega) HM.out).mono ?_
        rintro e w' ⟨rfl, hq⟩
        have hq := hq.symm
        subst hq
        go_wp2_with fail
        refine (partZ_any _ _ _).mono ?_
        rw [HPT.out]
        rintro e w' ⟨rfl, hq⟩
        have hq := hq.symm
        subst hq
        go_wp2_with (first | (refine wpList_store_row rfl 41 _ _ rfl w.heap.size Try.zeroCells41 rfl rfl 41 _ HP.out HZI.out (by rw [← posZ_zero]) (by rw [← posZ_zero]; exact posC_one _ _ _) ?_))
        rw [← posZ_zero]
        have M := posAt_row (t := fun _ => false) (m := 0) (s := 0) HP.out
        rw [HE.out]
        exact bodyPost_ret (results_tab2 rfl _ _ w.heap.size (posC (fun _ => false) 0 0) rfl (pos_load M)) rfl ⟨rfl, below_setRow HB.out (Nat.le_refl _) _⟩
      | true =>
        have hp2 := (partZ_iff hs hN.2 hm).1 hp
        obtain ⟨S, rfl⟩ : ∃ S : Nat, s = (S : Int) := ⟨s.toNat, by omega⟩
        have HPT := Lib.hid hp
        have hS : S ≤ m := by omega
        have hl2 := (Plain.wordB_iff.1 hw).1
        have HL := Lib.hid (Plain.wordB_iff.1 hw).2
        obtain ⟨t, ht⟩ : ∃ t, t = Plain.fallsB xs := ⟨_, rfl⟩
        have HT := Lib.hid ht
        have hdS : decide (0 ≤ (S : Int) ∧ (S : Int) < ((m + 1 : Nat) : Int)) = true := by simp; omega
        have HG : Hid (gameB xs (N : Int) (S : Int) = (t m && !t S)) := Lib.hid (by unfold gameB goodB; rw [hw, hdec, Int.toNat_natCast, Int.toNat_natCast, pow_nat, ← hm, ht, Nat.add_sub_cancel, hdS]; simp)
        have HPV : Hid (posV2 xs (N : Int) (S : Int) = if (t m && !t S) = true then .tuple #[.agg (posC t m S), .bool true] else .tuple #[.agg (posC (fun _ => false) 0 0), .bool false]) := Lib.hid (by unfold posV2; rw [HG.out, Int.toNat_natCast, Int.toNat_natCast, ← hm, ht, Nat.add_sub_cancel])
        clear hp hp2 hm hdec hw ht
        have HH : Hid (∀ V, Calls Try.prog 33 #[.agg (posC t m S)] V (Val (.bool (!t S)) V)) := Lib.hid (fun V => hangs_any t m S V (by omega))
        cases htm : t m with
        | false =>
          have HE : Hid (posV2 xs (N : Int) (S : Int) = .tuple #[.agg (posC (fun _ => false) 0 0), .bool false]) := Lib.hid (by rw [HPV.out, htm]; rfl)
          have HZI : Hid ((Try.prog.info? 41).map (·.size) = some (Try.zeroCells41).size) := Lib.hid (by rw [← posZ_zero]; exact infoPosC _ _ _)
          go_enter Try.func23, Try.ntmps23
          go_wp2_with fail
          rw [← hW]
          clear hW
          refine (isWord_any a cap xs _ HI h64 hl).mono ?_
          rw [HWB.out]
          rintro e w' ⟨rfl, rfl⟩
          go_wp2_with (first | (refine wpList_store_row rfl 41 _ _ rfl w.heap.size Try.zeroCells41 rfl rfl 41 _ HP.out HZI.out (by rw [← posZ_zero]) (by rw [← posZ_zero]; exact posC_one _ _ _) ?_))
          refine (isNail9_any _ _).mono ?_
          rw [HD.out]
          rintro e w' ⟨rfl, rfl⟩
          go_wp2_with (first | (refine wpList_store_row rfl 41 _ _ rfl w.heap.size Try.zeroCells41 rfl rfl 41 _ HP.out HZI.out (by rw [← posZ_zero]) (by rw [← posZ_zero]; exact posC_one _ _ _) ?_))
          refine (first9_any N m _ (by omega) HM.out).mono ?_
          rintro e w' ⟨rfl, hq⟩
          have hq := hq.symm
          subst hq
          go_wp2_with fail
          refine (partZ_any _ _ _).mono ?_
          rw [HPT.out]
          rintro e w' ⟨rfl, hq⟩
          have hq := hq.symm
          subst hq
          go_wp2_with (first | (refine wpList_store_row rfl 41 _ _ rfl w.heap.size Try.zeroCells41 rfl rfl 41 _ HP.out HZI.out (by rw [← posZ_zero]) (by rw [← posZ_zero]; exact posC_one _ _ _) ?_))
          refine (fallTable_any a cap xs _ HI HL (by omega)).mono ?_
          rw [← HT.out]
          rintro e w1 ⟨rfl, hb1⟩
          have hz1 : w.heap.size < w1.heap.size := Nat.lt_of_lt_of_le HP.out.lt hb1.size
          have HB1 := Lib.hid (HB.out.trans (hb1.mono HB.out.size))
          have HP1 := Lib.hid (HP.out.on hb1)
          clear hb1
          go_wp2_with fail
          have HV : Hid (PosAt ((w1.alloc (.cells Try.zeroCells41 41)).setRow w1.heap.size (posC t m S)) w1.heap.size t m S) := Lib.hid (posAt_row (heap_alloc_new _ _))
          have HPV1 : Hid (PosAt ((w1.alloc (.cells Try.zeroCells41 41)).setRow w1.heap.size (posC t m S)) w.heap.size (fun _ => false) 0 0) := Lib.hid ((setRow_other _ w1.heap.size w.heap.size _ (by omega)).trans ((heap_alloc_old _ _ hz1).trans HP1.out))
          have HBV : Hid (Below w.heap.size w ((w1.alloc (.cells Try.zeroCells41 41)).setRow w1.heap.size (posC t m S))) := Lib.hid (below_setRow (HB1.out.alloc (by omega) _) (by omega) _)
          have q1 := HV.out.nails
          have q2 := HV.out.bit hm64
          have hi : (m : Int) < 64 := by omega
          have hi0 : (0 : Int) ≤ (m : Int) := by omega
          refine (first9_any N m _ (by omega) HM.out).mono ?_
          rintro e w' ⟨rfl, hq⟩
          have hq := hq.symm
          subst hq
          go_wp2_with (first | (refine wpList_build rfl 41 _ rfl [(0, .agg (bools t)), (1, .int .i64 (m : Int)), (2, .int .i64 (S : Int))] rfl (posC t m S) (run_build_pos t m S _) ?_) | (refine wpList_store_row rfl 41 _ _ rfl w.heap.size Try.zeroCells41 rfl rfl 41 _ HPV1.out HZI.out (by rw [← posZ_zero]) (by rw [← posZ_zero]; exact posC_one _ _ _) ?_) | (refine wpList_store_row rfl 41 _ _ rfl w1.heap.size (posC t m S) rfl rfl 41 _ (heap_alloc_new _ _) (infoPosC _ _ _) (by rw [← posZ_zero, posC_size, posC_size]) (posC_one _ _ _) ?_) | (refine wpList_load9_if rfl 41 _ rfl w1.heap.size rfl (posC t m S) (pos_load HV.out) ?_))
          rw [← posZ_zero]
          have M := posAt_row (t := fun _ => false) (m := 0) (s := 0) HPV1.out
          rw [HE.out]
          exact bodyPost_ret (results_tab2 rfl _ _ w.heap.size (posC (fun _ => false) 0 0) rfl (pos_load M)) rfl ⟨rfl, below_setRow HBV.out (Nat.le_refl _) _⟩
        | true =>
          cases htS : t S with
          | true =>
            have HE : Hid (posV2 xs (N : Int) (S : Int) = .tuple #[.agg (posC (fun _ => false) 0 0), .bool false]) := Lib.hid (by rw [HPV.out, htm, htS]; rfl)
            have HZI : Hid ((Try.prog.info? 41).map (·.size) = some (Try.zeroCells41).size) := Lib.hid (by rw [← posZ_zero]; exact infoPosC _ _ _)
            go_enter Try.func23, Try.ntmps23
            go_wp2_with fail
            rw [← hW]
            clear hW
            refine (isWord_any a cap xs _ HI h64 hl).mono ?_
            rw [HWB.out]
            rintro e w' ⟨rfl, rfl⟩
            go_wp2_with (first | (refine wpList_store_row rfl 41 _ _ rfl w.heap.size Try.zeroCells41 rfl rfl 41 _ HP.out HZI.out (by rw [← posZ_zero]) (by rw [← posZ_zero]; exact posC_one _ _ _) ?_))
            refine (isNail9_any _ _).mono ?_
            rw [HD.out]
            rintro e w' ⟨rfl, rfl⟩
            go_wp2_with (first | (refine wpList_store_row rfl 41 _ _ rfl w.heap.size Try.zeroCells41 rfl rfl 41 _ HP.out HZI.out (by rw [← posZ_zero]) (by rw [← posZ_zero]; exact posC_one _ _ _) ?_))
            refine (first9_any N m _ (by omega) HM.out).mono ?_
            rintro e w' ⟨rfl, hq⟩
            have hq := hq.symm
            subst hq
            go_wp2_with fail
            refine (partZ_any _ _ _).mono ?_
            rw [HPT.out]
            rintro e w' ⟨rfl, hq⟩
            have hq := hq.symm
            subst hq
            go_wp2_with (first | (refine wpList_store_row rfl 41 _ _ rfl w.heap.size Try.zeroCells41 rfl rfl 41 _ HP.out HZI.out (by rw [← posZ_zero]) (by rw [← posZ_zero]; exact posC_one _ _ _) ?_))
            refine (fallTable_any a cap xs _ HI HL (by omega)).mono ?_
            rw [← HT.out]
            rintro e w1 ⟨rfl, hb1⟩
            have hz1 : w.heap.size < w1.heap.size := Nat.lt_of_lt_of_le HP.out.lt hb1.size
            have HB1 := Lib.hid (HB.out.trans (hb1.mono HB.out.size))
            have HP1 := Lib.hid (HP.out.on hb1)
            clear hb1
            go_wp2_with fail
            have HV : Hid (PosAt ((w1.alloc (.cells Try.zeroCells41 41)).setRow w1.heap.size (posC t m S)) w1.heap.size t m S) := Lib.hid (posAt_row (heap_alloc_new _ _))
            have HPV1 : Hid (PosAt ((w1.alloc (.cells Try.zeroCells41 41)).setRow w1.heap.size (posC t m S)) w.heap.size (fun _ => false) 0 0) := Lib.hid ((setRow_other _ w1.heap.size w.heap.size _ (by omega)).trans ((heap_alloc_old _ _ hz1).trans HP1.out))
            have HBV : Hid (Below w.heap.size w ((w1.alloc (.cells Try.zeroCells41 41)).setRow w1.heap.size (posC t m S))) := Lib.hid (below_setRow (HB1.out.alloc (by omega) _) (by omega) _)
            have q1 := HV.out.nails
            have q2 := HV.out.bit hm64
            have hi : (m : Int) < 64 := by omega
            have hi0 : (0 : Int) ≤ (m : Int) := by omega
            refine (first9_any N m _ (by omega) HM.out).mono ?_
            rintro e w' ⟨rfl, hq⟩
            have hq := hq.symm
            subst hq
            go_wp2_with (first | (refine wpList_build rfl 41 _ rfl [(0, .agg (bools t)), (1, .int .i64 (m : Int)), (2, .int .i64 (S : Int))] rfl (posC t m S) (run_build_pos t m S _) ?_) | (refine wpList_store_row rfl 41 _ _ rfl w.heap.size Try.zeroCells41 rfl rfl 41 _ HPV1.out HZI.out (by rw [← posZ_zero]) (by rw [← posZ_zero]; exact posC_one _ _ _) ?_) | (refine wpList_store_row rfl 41 _ _ rfl w1.heap.size (posC t m S) rfl rfl 41 _ (heap_alloc_new _ _) (infoPosC _ _ _) (by rw [← posZ_zero, posC_size, posC_size]) (posC_one _ _ _) ?_) | (refine wpList_load9_if rfl 41 _ rfl w1.heap.size rfl (posC t m S) (pos_load HV.out) ?_))
            refine (HH.out _).mono ?_
            rw [htS]
            rintro e w2 ⟨rfl, hb2⟩
            have HP2 := Lib.hid (HPV1.out.on hb2)
            have HV2 := Lib.hid (HV.out.on hb2)
            have HB2 := Lib.hid (HBV.out.trans (hb2.mono HBV.out.size))
            clear hb2
            go_wp2_with (first | (refine wpList_store_row rfl 41 _ _ rfl w.heap.size Try.zeroCells41 rfl rfl 41 _ HP2.out HZI.out (by rw [← posZ_zero]) (by rw [← posZ_zero]; exact posC_one _ _ _) ?_))
            rw [← posZ_zero]
            have M := posAt_row (t := fun _ => false) (m := 0) (s := 0) HP2.out
            rw [HE.out]
            exact bodyPost_ret (results_tab2 rfl _ _ w.heap.size (posC (fun _ => false) 0 0) rfl (pos_load M)) rfl ⟨rfl, below_setRow HB2.out (Nat.le_refl _) _⟩
          | false =>
            have HE : Hid (posV2 xs (N : Int) (S : Int) = .tuple #[.agg (posC t m S), .bool true]) := Lib.hid (by rw [HPV.out, htm, htS]; rfl)
            have HZI : Hid ((Try.prog.info? 41).map (·.size) = some (Try.zeroCells41).size) := Lib.hid (by rw [← posZ_zero]; exact infoPosC _ _ _)
            go_enter Try.func23, Try.ntmps23
            go_wp2_with fail
            rw [← hW]
            clear hW
            refine (isWord_any a cap xs _ HI h64 hl).mono ?_
            rw [HWB.out]
            rintro e w' ⟨rfl, rfl⟩
            go_wp2_with (first | (refine wpList_store_row rfl 41 _ _ rfl w.heap.size Try.zeroCells41 rfl rfl 41 _ HP.out HZI.out (by rw [← posZ_zero]) (by rw [← posZ_zero]; exact posC_one _ _ _) ?_))
            refine (isNail9_any _ _).mono ?_
            rw [HD.out]
            rintro e w' ⟨rfl, rfl⟩
            go_wp2_with (first | (refine wpList_store_row rfl 41 _ _ rfl w.heap.size Try.zeroCells41 rfl rfl 41 _ HP.out HZI.out (by rw [← posZ_zero]) (by rw [← posZ_zero]; exact posC_one _ _ _) ?_))
            refine (first9_any N m _ (by omega) HM.out).mono ?_
            rintro e w' ⟨rfl, hq⟩
            have hq := hq.symm
            subst hq
            go_wp2_with fail
            refine (partZ_any _ _ _).mono ?_
            rw [HPT.out]
            rintro e w' ⟨rfl, hq⟩
            have hq := hq.symm
            subst hq
            go_wp2_with (first | (refine wpList_store_row rfl 41 _ _ rfl w.heap.size Try.zeroCells41 rfl rfl 41 _ HP.out HZI.out (by rw [← posZ_zero]) (by rw [← posZ_zero]; exact posC_one _ _ _) ?_))
            refine (fallTable_any a cap xs _ HI HL (by omega)).mono ?_
            rw [← HT.out]
            rintro e w1 ⟨rfl, hb1⟩
            have hz1 : w.heap.size < w1.heap.size := Nat.lt_of_lt_of_le HP.out.lt hb1.size
            have HB1 := Lib.hid (HB.out.trans (hb1.mono HB.out.size))
            have HP1 := Lib.hid (HP.out.on hb1)
            clear hb1
            go_wp2_with fail
            have HV : Hid (PosAt ((w1.alloc (.cells Try.zeroCells41 41)).setRow w1.heap.size (posC t m S)) w1.heap.size t m S) := Lib.hid (posAt_row (heap_alloc_new _ _))
            have HPV1 : Hid (PosAt ((w1.alloc (.cells Try.zeroCells41 41)).setRow w1.heap.size (posC t m S)) w.heap.size (fun _ => false) 0 0) := Lib.hid ((setRow_other _ w1.heap.size w.heap.size _ (by omega)).trans ((heap_alloc_old _ _ hz1).trans HP1.out))
            have HBV : Hid (Below w.heap.size w ((w1.alloc (.cells Try.zeroCells41 41)).setRow w1.heap.size (posC t m S))) := Lib.hid (below_setRow (HB1.out.alloc (by omega) _) (by omega) _)
            have q1 := HV.out.nails
            have q2 := HV.out.bit hm64
            have hi : (m : Int) < 64 := by omega
            have hi0 : (0 : Int) ≤ (m : Int) := by omega
            refine (first9_any N m _ (by omega) HM.out).mono ?_
            rintro e w' ⟨rfl, hq⟩
            have hq := hq.symm
            subst hq
            go_wp2_with (first | (refine wpList_build rfl 41 _ rfl [(0, .agg (bools t)), (1, .int .i64 (m : Int)), (2, .int .i64 (S : Int))] rfl (posC t m S) (run_build_pos t m S _) ?_) | (refine wpList_store_row rfl 41 _ _ rfl w.heap.size Try.zeroCells41 rfl rfl 41 _ HPV1.out HZI.out (by rw [← posZ_zero]) (by rw [← posZ_zero]; exact posC_one _ _ _) ?_) | (refine wpList_store_row rfl 41 _ _ rfl w1.heap.size (posC t m S) rfl rfl 41 _ (heap_alloc_new _ _) (infoPosC _ _ _) (by rw [← posZ_zero, posC_size, posC_size]) (posC_one _ _ _) ?_) | (refine wpList_load9_if rfl 41 _ rfl w1.heap.size rfl (posC t m S) (pos_load HV.out) ?_))
            refine (HH.out _).mono ?_
            rw [htS]
            rintro e w2 ⟨rfl, hb2⟩
            have HP2 := Lib.hid (HPV1.out.on hb2)
            have HV2 := Lib.hid (HV.out.on hb2)
            have HB2 := Lib.hid (HBV.out.trans (hb2.mono HBV.out.size))
            clear hb2
            go_wp2_with (first | (refine wpList_load_row rfl 41 _ rfl w1.heap.size rfl 41 (posC t m S) (0, 0) _ HV2.out Try.underlying41 rfl (infoPosC _ _ _) ?_) | (refine wpList_store_row rfl 41 _ _ rfl w.heap.size (posC t m S) rfl rfl 41 _ HP2.out (infoPosC _ _ _) (by rw [posC_size, posC_size]) (posC_one _ _ _) ?_))
            have M := posAt_row (t := t) (m := m) (s := S) HP2.out
            rw [HE.out]
            exact bodyPost_ret (results_tab2 rfl _ _ w.heap.size (posC t m S) rfl (pos_load M)) rfl ⟨rfl, below_setRow HB2.out (Nat.le_refl _) _⟩
    · have HN : Hid (decide (1 ≤ n ∧ n ≤ 6) = false) := Lib.hid (by simpa using hn)
      have HE : Hid (posV2 xs n s = .tuple #[.agg (posC (fun _ => false) 0 0), .bool false]) := Lib.hid (if_neg (by unfold gameB goodB; rw [HN.out]; simp))
      clear hw hn
      have HZI : Hid ((Try.prog.info? 41).map (·.size) = some (Try.zeroCells41).size) := Lib.hid (by rw [← posZ_zero]; exact infoPosC _ _ _)
      go_enter Try.func23, Try.ntmps23
      go_wp2_with fail
      rw [← hW]
      clear hW
      refine (isWord_any a cap xs _ HI h64 hl).mono ?_
      rw [HWB.out]
      rintro e w' ⟨rfl, rfl⟩
      go_wp2_with (first | (refine wpList_store_row rfl 41 _ _ rfl w.heap.size Try.zeroCells41 rfl rfl 41 _ HP.out HZI.out (by rw [← posZ_zero]) (by rw [← posZ_zero]; exact posC_one _ _ _) ?_))
      refine (isNail9_any _ _).mono ?_
      rw [HN.out]
      rintro e w' ⟨rfl, rfl⟩
      go_wp2_with (first | (refine wpList_store_row rfl 41 _ _ rfl w.heap.size Try.zeroCells41 rfl rfl 41 _ HP.out HZI.out (by rw [← posZ_zero]) (by rw [← posZ_zero]; exact posC_one _ _ _) ?_))
      rw [← posZ_zero]
      have M := posAt_row (t := fun _ => false) (m := 0) (s := 0) HP.out
      rw [HE.out]
      exact bodyPost_ret (results_tab2 rfl _ _ w.heap.size (posC (fun _ => false) 0 0) rfl (pos_load M)) rfl ⟨rfl, below_setRow HB.out (Nat.le_refl _) _⟩

end Go.Proofs.Ytpaijobmoddgpab
