/- Contracts: spec.l9Good, l9Moves, l9Out, SafeNails. Conditions: numbers of 64 bits, lengths that fit. -/
import Derived.Test.YtpaijobmoddgpabGameSafe
import Derived.Test.YtpaijobmoddgpabFallSpec
import Derived.Test.YtpaijobmoddgpabSetKit
import Derived.Maps.AppendAt
namespace Go.Proofs.Ytpaijobmoddgpab
open Go.ChangeShapes Go.WideShapes Go.ChangeAt Go.RowKit
set_option linter.unusedVariables false

set_option maxRecDepth 100000 in
set_option maxHeartbeats 3200000 in
theorem l9Good_any (a : Option Addr) (cap : Nat) (xs : List Int) (n s : Int) (w : World) (h : Hid (Ints w a xs)) (h64 : Hid (In64 xs)) (hl : xs.length ≤ 9223372036854775807) (hnr : -9223372036854775808 ≤ n ∧ n ≤ 9223372036854775807) (hs : -9223372036854775808 ≤ s ∧ s ≤ 9223372036854775807) :
    Calls Try.prog 20 #[.slice a xs.length cap, .int .i64 n, .int .i64 s] w (Val (.bool (gameB xs n s)) w) := by
  cases hw : Plain.wordB xs with
  | false =>
    have HE : Hid (gameB xs n s = false) := Lib.hid (by unfold gameB goodB; rw [hw]; rfl)
    have HWB := Lib.hid hw
    clear hw
    go_enter Try.func20, Try.ntmps20
    go_wp2_with fail
    refine (l2Word_any a cap xs _ h h64 hl).mono ?_
    rw [HWB.out]
    rintro e w' ⟨rfl, rfl⟩
    go_wp2_with fail
    go_ret
    exact ⟨ret_bool HE.out.symm, Below.refl _ _⟩
  | true =>
    have HWB := Lib.hid hw
    by_cases hn : 1 ≤ n ∧ n ≤ 6
    · have h6 : n = 1 ∨ n = 2 ∨ n = 3 ∨ n = 4 ∨ n = 5 ∨ n = 6 := by omega
      clear hn
      rcases h6 with rfl | rfl | rfl | rfl | rfl | rfl
      · by_cases hp : 0 ≤ s ∧ s ≤ 1
        · obtain ⟨S, rfl⟩ : ∃ S : Nat, s = (S : Int) := ⟨s.toNat, by omega⟩
          have hS : S < 64 := by omega
          have hl2 := (Plain.wordB_iff.1 hw).1
          have HL := Lib.hid (Plain.wordB_iff.1 hw).2
          have hd : decide (0 ≤ (S : Int) ∧ (S : Int) ≤ 1) = true := by simpa using hp
          have HD := Lib.hid hd
          have e9 : decide (0 ≤ (S : Int) ∧ (S : Int) < 2 ^ (1 : Int).toNat) = true := by simp; omega
          have HG : Hid (gameB xs 1 (S : Int) = (Plain.fallsB xs 1 && !Plain.fallsB xs S)) := Lib.hid (by unfold gameB goodB; rw [hw, e9]; simp)
          clear hw hd hp e9
          obtain ⟨f1, hf1⟩ : ∃ f, f = Plain.fallsB xs S := ⟨_, rfl⟩
          obtain ⟨f2, hf2⟩ : ∃ f, f = Plain.fallsB xs 1 := ⟨_, rfl⟩
          rw [← hf1, ← hf2] at HG
          have F1 := Lib.hid hf1
          have F2 := Lib.hid hf2
          clear hf1 hf2
          rw [HG.out]
          cases f1 with
          | true =>
            go_enter Try.func20, Try.ntmps20
            go_wp2_with fail
            refine (l2Word_any a cap xs _ h h64 hl).mono ?_
            rw [HWB.out]
            rintro e w' ⟨rfl, rfl⟩
            go_wp2_with fail
            refine (l1In_any 1 1 6 _ (by omega)).mono ?_
            rw [show decide ((1 : Int) ≤ 1 ∧ (1 : Int) ≤ 6) = true by decide]
            rintro e w' ⟨rfl, rfl⟩
            go_wp2_with fail
            refine (l1In_any (S : Int) 0 1 _ (by omega)).mono ?_
            rw [HD.out]
            rintro e w' ⟨rfl, rfl⟩
            go_wp2_with fail
            refine (l3Falls_any a cap xs S _ h HL (by omega) hS).mono ?_
            rw [← F1.out]
            rintro e w1 ⟨rfl, hb1⟩
            have HB1 := Lib.hid hb1
            clear hb1
            go_wp2_with fail
            go_ret
            exact ⟨ret_bool (by simp), HB1.out⟩
          | false =>
            go_enter Try.func20, Try.ntmps20
            go_wp2_with fail
            refine (l2Word_any a cap xs _ h h64 hl).mono ?_
            rw [HWB.out]
            rintro e w' ⟨rfl, rfl⟩
            go_wp2_with fail
            refine (l1In_any 1 1 6 _ (by omega)).mono ?_
            rw [show decide ((1 : Int) ≤ 1 ∧ (1 : Int) ≤ 6) = true by decide]
            rintro e w' ⟨rfl, rfl⟩
            go_wp2_with fail
            refine (l1In_any (S : Int) 0 1 _ (by omega)).mono ?_
            rw [HD.out]
            rintro e w' ⟨rfl, rfl⟩
            go_wp2_with fail
            refine (l3Falls_any a cap xs S _ h HL (by omega) hS).mono ?_
            rw [← F1.out]
            rintro e w1 ⟨rfl, hb1⟩
            have HB1 := Lib.hid hb1
            clear hb1
            go_wp2_with fail
            refine (l3Falls_any a cap xs 1 _ (Lib.hid (h.out.on HB1.out)) HL (by omega) (by omega)).mono ?_
            rw [← F2.out]
            rintro e w2 ⟨rfl, hb2⟩
            have HB2 := Lib.hid (HB1.out.trans (hb2.mono HB1.out.size))
            clear hb2
            go_wp2_with fail
            go_ret
            exact ⟨ret_bool (by simp), HB2.out⟩
        · have hd : decide (0 ≤ s ∧ s ≤ 1) = false := by simpa using hp
          have HD := Lib.hid hd
          have e9 : decide (0 ≤ s ∧ s < 2 ^ (1 : Int).toNat) = false := by simp; omega
          have HE : Hid (gameB xs 1 s = false) := Lib.hid (by unfold gameB goodB; rw [e9]; simp)
          clear hw hd hp e9
          go_enter Try.func20, Try.ntmps20
          go_wp2_with fail
          refine (l2Word_any a cap xs _ h h64 hl).mono ?_
          rw [HWB.out]
          rintro e w' ⟨rfl, rfl⟩
          go_wp2_with fail
          refine (l1In_any 1 1 6 _ (by omega)).mono ?_
          rw [show decide ((1 : Int) ≤ 1 ∧ (1 : Int) ≤ 6) = true by decide]
          rintro e w' ⟨rfl, rfl⟩
          go_wp2_with fail
          refine (l1In_any s 0 1 _ hs).mono ?_
          rw [HD.out]
          rintro e w' ⟨rfl, rfl⟩
          go_wp2_with fail
          go_ret
          exact ⟨ret_bool HE.out.symm, Below.refl _ _⟩
      · by_cases hp : 0 ≤ s ∧ s ≤ 3
        · obtain ⟨S, rfl⟩ : ∃ S : Nat, s = (S : Int) := ⟨s.toNat, by omega⟩
          have hS : S < 64 := by omega
          have hl2 := (Plain.wordB_iff.1 hw).1
          have HL := Lib.hid (Plain.wordB_iff.1 hw).2
          have hd : decide (0 ≤ (S : Int) ∧ (S : Int) ≤ 3) = true := by simpa using hp
          have HD := Lib.hid hd
          have e9 : decide (0 ≤ (S : Int) ∧ (S : Int) < 2 ^ (2 : Int).toNat) = true := by simp; omega
          have HG : Hid (gameB xs 2 (S : Int) = (Plain.fallsB xs 3 && !Plain.fallsB xs S)) := Lib.hid (by unfold gameB goodB; rw [hw, e9]; simp)
          clear hw hd hp e9
          obtain ⟨f1, hf1⟩ : ∃ f, f = Plain.fallsB xs S := ⟨_, rfl⟩
          obtain ⟨f2, hf2⟩ : ∃ f, f = Plain.fallsB xs 3 := ⟨_, rfl⟩
          rw [← hf1, ← hf2] at HG
          have F1 := Lib.hid hf1
          have F2 := Lib.hid hf2
          clear hf1 hf2
          rw [HG.out]
          cases f1 with
          | true =>
            go_enter Try.func20, Try.ntmps20
            go_wp2_with fail
            refine (l2Word_any a cap xs _ h h64 hl).mono ?_
            rw [HWB.out]
            rintro e w' ⟨rfl, rfl⟩
            go_wp2_with fail
            refine (l1In_any 2 1 6 _ (by omega)).mono ?_
            rw [show decide ((1 : Int) ≤ 2 ∧ (2 : Int) ≤ 6) = true by decide]
            rintro e w' ⟨rfl, rfl⟩
            go_wp2_with fail
            refine (l1In_any (S : Int) 0 3 _ (by omega)).mono ?_
            rw [HD.out]
            rintro e w' ⟨rfl, rfl⟩
            go_wp2_with fail
            refine (l3Falls_any a cap xs S _ h HL (by omega) hS).mono ?_
            rw [← F1.out]
            rintro e w1 ⟨rfl, hb1⟩
            have HB1 := Lib.hid hb1
            clear hb1
            go_wp2_with fail
            go_ret
            exact ⟨ret_bool (by simp), HB1.out⟩
          | false =>
            go_enter Try.func20, Try.ntmps20
            go_wp2_with fail
            refine (l2Word_any a cap xs _ h h64 hl).mono ?_
            rw [HWB.out]
            rintro e w' ⟨rfl, rfl⟩
            go_wp2_with fail
            refine (l1In_any 2 1 6 _ (by omega)).mono ?_
            rw [show decide ((1 : Int) ≤ 2 ∧ (2 : Int) ≤ 6) = true by decide]
            rintro e w' ⟨rfl, rfl⟩
            go_wp2_with fail
            refine (l1In_any (S : Int) 0 3 _ (by omega)).mono ?_
            rw [HD.out]
            rintro e w' ⟨rfl, rfl⟩
            go_wp2_with fail
            refine (l3Falls_any a cap xs S _ h HL (by omega) hS).mono ?_
            rw [← F1.out]
            rintro e w1 ⟨rfl, hb1⟩
            have HB1 := Lib.hid hb1
            clear hb1
            go_wp2_with fail
            refine (l3Falls_any a cap xs 3 _ (Lib.hid (h.out.on HB1.out)) HL (by omega) (by omega)).mono ?_
            rw [← F2.out]
            rintro e w2 ⟨rfl, hb2⟩
            have HB2 := Lib.hid (HB1.out.trans (hb2.mono HB1.out.size))
            clear hb2
            go_wp2_with fail
            go_ret
            exact ⟨ret_bool (by simp), HB2.out⟩
        · have hd : decide (0 ≤ s ∧ s ≤ 3) = false := by simpa using hp
          have HD := Lib.hid hd
          have e9 : decide (0 ≤ s ∧ s < 2 ^ (2 : Int).toNat) = false := by simp; omega
          have HE : Hid (gameB xs 2 s = false) := Lib.hid (by unfold gameB goodB; rw [e9]; simp)
          clear hw hd hp e9
          go_enter Try.func20, Try.ntmps20
          go_wp2_with fail
          refine (l2Word_any a cap xs _ h h64 hl).mono ?_
          rw [HWB.out]
          rintro e w' ⟨rfl, rfl⟩
          go_wp2_with fail
          refine (l1In_any 2 1 6 _ (by omega)).mono ?_
          rw [show decide ((1 : Int) ≤ 2 ∧ (2 : Int) ≤ 6) = true by decide]
          rintro e w' ⟨rfl, rfl⟩
          go_wp2_with fail
          refine (l1In_any s 0 3 _ hs).mono ?_
          rw [HD.out]
          rintro e w' ⟨rfl, rfl⟩
          go_wp2_with fail
          go_ret
          exact ⟨ret_bool HE.out.symm, Below.refl _ _⟩
      · by_cases hp : 0 ≤ s ∧ s ≤ 7
        · obtain ⟨S, rfl⟩ : ∃ S : Nat, s = (S : Int) := ⟨s.toNat, by omega⟩
          have hS : S < 64 := by omega
          have hl2 := (Plain.wordB_iff.1 hw).1
          have HL := Lib.hid (Plain.wordB_iff.1 hw).2
          have hd : decide (0 ≤ (S : Int) ∧ (S : Int) ≤ 7) = true := by simpa using hp
          have HD := Lib.hid hd
          have e9 : decide (0 ≤ (S : Int) ∧ (S : Int) < 2 ^ (3 : Int).toNat) = true := by simp; omega
          have HG : Hid (gameB xs 3 (S : Int) = (Plain.fallsB xs 7 && !Plain.fallsB xs S)) := Lib.hid (by unfold gameB goodB; rw [hw, e9]; simp)
          clear hw hd hp e9
          obtain ⟨f1, hf1⟩ : ∃ f, f = Plain.fallsB xs S := ⟨_, rfl⟩
          obtain ⟨f2, hf2⟩ : ∃ f, f = Plain.fallsB xs 7 := ⟨_, rfl⟩
          rw [← hf1, ← hf2] at HG
          have F1 := Lib.hid hf1
          have F2 := Lib.hid hf2
          clear hf1 hf2
          rw [HG.out]
          cases f1 with
          | true =>
            go_enter Try.func20, Try.ntmps20
            go_wp2_with fail
            refine (l2Word_any a cap xs _ h h64 hl).mono ?_
            rw [HWB.out]
            rintro e w' ⟨rfl, rfl⟩
            go_wp2_with fail
            refine (l1In_any 3 1 6 _ (by omega)).mono ?_
            rw [show decide ((1 : Int) ≤ 3 ∧ (3 : Int) ≤ 6) = true by decide]
            rintro e w' ⟨rfl, rfl⟩
            go_wp2_with fail
            refine (l1In_any (S : Int) 0 7 _ (by omega)).mono ?_
            rw [HD.out]
            rintro e w' ⟨rfl, rfl⟩
            go_wp2_with fail
            refine (l3Falls_any a cap xs S _ h HL (by omega) hS).mono ?_
            rw [← F1.out]
            rintro e w1 ⟨rfl, hb1⟩
            have HB1 := Lib.hid hb1
            clear hb1
            go_wp2_with fail
            go_ret
            exact ⟨ret_bool (by simp), HB1.out⟩
          | false =>
            go_enter Try.func20, Try.ntmps20
            go_wp2_with fail
            refine (l2Word_any a cap xs _ h h64 hl).mono ?_
            rw [HWB.out]
            rintro e w' ⟨rfl, rfl⟩
            go_wp2_with fail
            refine (l1In_any 3 1 6 _ (by omega)).mono ?_
            rw [show decide ((1 : Int) ≤ 3 ∧ (3 : Int) ≤ 6) = true by decide]
            rintro e w' ⟨rfl, rfl⟩
            go_wp2_with fail
            refine (l1In_any (S : Int) 0 7 _ (by omega)).mono ?_
            rw [HD.out]
            rintro e w' ⟨rfl, rfl⟩
            go_wp2_with fail
            refine (l3Falls_any a cap xs S _ h HL (by omega) hS).mono ?_
            rw [← F1.out]
            rintro e w1 ⟨rfl, hb1⟩
            have HB1 := Lib.hid hb1
            clear hb1
            go_wp2_with fail
            refine (l3Falls_any a cap xs 7 _ (Lib.hid (h.out.on HB1.out)) HL (by omega) (by omega)).mono ?_
            rw [← F2.out]
            rintro e w2 ⟨rfl, hb2⟩
            have HB2 := Lib.hid (HB1.out.trans (hb2.mono HB1.out.size))
            clear hb2
            go_wp2_with fail
            go_ret
            exact ⟨ret_bool (by simp), HB2.out⟩
        · have hd : decide (0 ≤ s ∧ s ≤ 7) = false := by simpa using hp
          have HD := Lib.hid hd
          have e9 : decide (0 ≤ s ∧ s < 2 ^ (3 : Int).toNat) = false := by simp; omega
          have HE : Hid (gameB xs 3 s = false) := Lib.hid (by unfold gameB goodB; rw [e9]; simp)
          clear hw hd hp e9
          go_enter Try.func20, Try.ntmps20
          go_wp2_with fail
          refine (l2Word_any a cap xs _ h h64 hl).mono ?_
          rw [HWB.out]
          rintro e w' ⟨rfl, rfl⟩
          go_wp2_with fail
          refine (l1In_any 3 1 6 _ (by omega)).mono ?_
          rw [show decide ((1 : Int) ≤ 3 ∧ (3 : Int) ≤ 6) = true by decide]
          rintro e w' ⟨rfl, rfl⟩
          go_wp2_with fail
          refine (l1In_any s 0 7 _ hs).mono ?_
          rw [HD.out]
          rintro e w' ⟨rfl, rfl⟩
          go_wp2_with fail
          go_ret
          exact ⟨ret_bool HE.out.symm, Below.refl _ _⟩
      · by_cases hp : 0 ≤ s ∧ s ≤ 15
        · obtain ⟨S, rfl⟩ : ∃ S : Nat, s = (S : Int) := ⟨s.toNat, by omega⟩
          have hS : S < 64 := by omega
          have hl2 := (Plain.wordB_iff.1 hw).1
          have HL := Lib.hid (Plain.wordB_iff.1 hw).2
          have hd : decide (0 ≤ (S : Int) ∧ (S : Int) ≤ 15) = true := by simpa using hp
          have HD := Lib.hid hd
          have e9 : decide (0 ≤ (S : Int) ∧ (S : Int) < 2 ^ (4 : Int).toNat) = true := by simp; omega
          have HG : Hid (gameB xs 4 (S : Int) = (Plain.fallsB xs 15 && !Plain.fallsB xs S)) := Lib.hid (by unfold gameB goodB; rw [hw, e9]; simp)
          clear hw hd hp e9
          obtain ⟨f1, hf1⟩ : ∃ f, f = Plain.fallsB xs S := ⟨_, rfl⟩
          obtain ⟨f2, hf2⟩ : ∃ f, f = Plain.fallsB xs 15 := ⟨_, rfl⟩
          rw [← hf1, ← hf2] at HG
          have F1 := Lib.hid hf1
          have F2 := Lib.hid hf2
          clear hf1 hf2
          rw [HG.out]
          cases f1 with
          | true =>
            go_enter Try.func20, Try.ntmps20
            go_wp2_with fail
            refine (l2Word_any a cap xs _ h h64 hl).mono ?_
            rw [HWB.out]
            rintro e w' ⟨rfl, rfl⟩
            go_wp2_with fail
            refine (l1In_any 4 1 6 _ (by omega)).mono ?_
            rw [show decide ((1 : Int) ≤ 4 ∧ (4 : Int) ≤ 6) = true by decide]
            rintro e w' ⟨rfl, rfl⟩
            go_wp2_with fail
            refine (l1In_any (S : Int) 0 15 _ (by omega)).mono ?_
            rw [HD.out]
            rintro e w' ⟨rfl, rfl⟩
            go_wp2_with fail
            refine (l3Falls_any a cap xs S _ h HL (by omega) hS).mono ?_
            rw [← F1.out]
            rintro e w1 ⟨rfl, hb1⟩
            have HB1 := Lib.hid hb1
            clear hb1
            go_wp2_with fail
            go_ret
            exact ⟨ret_bool (by simp), HB1.out⟩
          | false =>
            go_enter Try.func20, Try.ntmps20
            go_wp2_with fail
            refine (l2Word_any a cap xs _ h h64 hl).mono ?_
            rw [HWB.out]
            rintro e w' ⟨rfl, rfl⟩
            go_wp2_with fail
            refine (l1In_any 4 1 6 _ (by omega)).mono ?_
            rw [show decide ((1 : Int) ≤ 4 ∧ (4 : Int) ≤ 6) = true by decide]
            rintro e w' ⟨rfl, rfl⟩
            go_wp2_with fail
            refine (l1In_any (S : Int) 0 15 _ (by omega)).mono ?_
            rw [HD.out]
            rintro e w' ⟨rfl, rfl⟩
            go_wp2_with fail
            refine (l3Falls_any a cap xs S _ h HL (by omega) hS).mono ?_
            rw [← F1.out]
            rintro e w1 ⟨rfl, hb1⟩
            have HB1 := Lib.hid hb1
            clear hb1
            go_wp2_with fail
            refine (l3Falls_any a cap xs 15 _ (Lib.hid (h.out.on HB1.out)) HL (by omega) (by omega)).mono ?_
            rw [← F2.out]
            rintro e w2 ⟨rfl, hb2⟩
            have HB2 := Lib.hid (HB1.out.trans (hb2.mono HB1.out.size))
            clear hb2
            go_wp2_with fail
            go_ret
            exact ⟨ret_bool (by simp), HB2.out⟩
        · have hd : decide (0 ≤ s ∧ s ≤ 15) = false := by simpa using hp
          have HD := Lib.hid hd
          have e9 : decide (0 ≤ s ∧ s < 2 ^ (4 : Int).toNat) = false := by simp; omega
          have HE : Hid (gameB xs 4 s = false) := Lib.hid (by unfold gameB goodB; rw [e9]; simp)
          clear hw hd hp e9
          go_enter Try.func20, Try.ntmps20
          go_wp2_with fail
          refine (l2Word_any a cap xs _ h h64 hl).mono ?_
          rw [HWB.out]
          rintro e w' ⟨rfl, rfl⟩
          go_wp2_with fail
          refine (l1In_any 4 1 6 _ (by omega)).mono ?_
          rw [show decide ((1 : Int) ≤ 4 ∧ (4 : Int) ≤ 6) = true by decide]
          rintro e w' ⟨rfl, rfl⟩
          go_wp2_with fail
          refine (l1In_any s 0 15 _ hs).mono ?_
          rw [HD.out]
          rintro e w' ⟨rfl, rfl⟩
          go_wp2_with fail
          go_ret
          exact ⟨ret_bool HE.out.symm, Below.refl _ _⟩
      · by_cases hp : 0 ≤ s ∧ s ≤ 31
        · obtain ⟨S, rfl⟩ : ∃ S : Nat, s = (S : Int) := ⟨s.toNat, by omega⟩
          have hS : S < 64 := by omega
          have hl2 := (Plain.wordB_iff.1 hw).1
          have HL := Lib.hid (Plain.wordB_iff.1 hw).2
          have hd : decide (0 ≤ (S : Int) ∧ (S : Int) ≤ 31) = true := by simpa using hp
          have HD := Lib.hid hd
          have e9 : decide (0 ≤ (S : Int) ∧ (S : Int) < 2 ^ (5 : Int).toNat) = true := by simp; omega
          have HG : Hid (gameB xs 5 (S : Int) = (Plain.fallsB xs 31 && !Plain.fallsB xs S)) := Lib.hid (by unfold gameB goodB; rw [hw, e9]; simp)
          clear hw hd hp e9
          obtain ⟨f1, hf1⟩ : ∃ f, f = Plain.fallsB xs S := ⟨_, rfl⟩
          obtain ⟨f2, hf2⟩ : ∃ f, f = Plain.fallsB xs 31 := ⟨_, rfl⟩
          rw [← hf1, ← hf2] at HG
          have F1 := Lib.hid hf1
          have F2 := Lib.hid hf2
          clear hf1 hf2
          rw [HG.out]
          cases f1 with
          | true =>
            go_enter Try.func20, Try.ntmps20
            go_wp2_with fail
            refine (l2Word_any a cap xs _ h h64 hl).mono ?_
            rw [HWB.out]
            rintro e w' ⟨rfl, rfl⟩
            go_wp2_with fail
            refine (l1In_any 5 1 6 _ (by omega)).mono ?_
            rw [show decide ((1 : Int) ≤ 5 ∧ (5 : Int) ≤ 6) = true by decide]
            rintro e w' ⟨rfl, rfl⟩
            go_wp2_with fail
            refine (l1In_any (S : Int) 0 31 _ (by omega)).mono ?_
            rw [HD.out]
            rintro e w' ⟨rfl, rfl⟩
            go_wp2_with fail
            refine (l3Falls_any a cap xs S _ h HL (by omega) hS).mono ?_
            rw [← F1.out]
            rintro e w1 ⟨rfl, hb1⟩
            have HB1 := Lib.hid hb1
            clear hb1
            go_wp2_with fail
            go_ret
            exact ⟨ret_bool (by simp), HB1.out⟩
          | false =>
            go_enter Try.func20, Try.ntmps20
            go_wp2_with fail
            refine (l2Word_any a cap xs _ h h64 hl).mono ?_
            rw [HWB.out]
            rintro e w' ⟨rfl, rfl⟩
            go_wp2_with fail
            refine (l1In_any 5 1 6 _ (by omega)).mono ?_
            rw [show decide ((1 : Int) ≤ 5 ∧ (5 : Int) ≤ 6) = true by decide]
            rintro e w' ⟨rfl, rfl⟩
            go_wp2_with fail
            refine (l1In_any (S : Int) 0 31 _ (by omega)).mono ?_
            rw [HD.out]
            rintro e w' ⟨rfl, rfl⟩
            go_wp2_with fail
            refine (l3Falls_any a cap xs S _ h HL (by omega) hS).mono ?_
            rw [← F1.out]
            rintro e w1 ⟨rfl, hb1⟩
            have HB1 := Lib.hid hb1
            clear hb1
            go_wp2_with fail
            refine (l3Falls_any a cap xs 31 _ (Lib.hid (h.out.on HB1.out)) HL (by omega) (by omega)).mono ?_
            rw [← F2.out]
            rintro e w2 ⟨rfl, hb2⟩
            have HB2 := Lib.hid (HB1.out.trans (hb2.mono HB1.out.size))
            clear hb2
            go_wp2_with fail
            go_ret
            exact ⟨ret_bool (by simp), HB2.out⟩
        · have hd : decide (0 ≤ s ∧ s ≤ 31) = false := by simpa using hp
          have HD := Lib.hid hd
          have e9 : decide (0 ≤ s ∧ s < 2 ^ (5 : Int).toNat) = false := by simp; omega
          have HE : Hid (gameB xs 5 s = false) := Lib.hid (by unfold gameB goodB; rw [e9]; simp)
          clear hw hd hp e9
          go_enter Try.func20, Try.ntmps20
          go_wp2_with fail
          refine (l2Word_any a cap xs _ h h64 hl).mono ?_
          rw [HWB.out]
          rintro e w' ⟨rfl, rfl⟩
          go_wp2_with fail
          refine (l1In_any 5 1 6 _ (by omega)).mono ?_
          rw [show decide ((1 : Int) ≤ 5 ∧ (5 : Int) ≤ 6) = true by decide]
          rintro e w' ⟨rfl, rfl⟩
          go_wp2_with fail
          refine (l1In_any s 0 31 _ hs).mono ?_
          rw [HD.out]
          rintro e w' ⟨rfl, rfl⟩
          go_wp2_with fail
          go_ret
          exact ⟨ret_bool HE.out.symm, Below.refl _ _⟩
      · by_cases hp : 0 ≤ s ∧ s ≤ 63
        · obtain ⟨S, rfl⟩ : ∃ S : Nat, s = (S : Int) := ⟨s.toNat, by omega⟩
          have hS : S < 64 := by omega
          have hl2 := (Plain.wordB_iff.1 hw).1
          have HL := Lib.hid (Plain.wordB_iff.1 hw).2
          have hd : decide (0 ≤ (S : Int) ∧ (S : Int) ≤ 63) = true := by simpa using hp
          have HD := Lib.hid hd
          have e9 : decide (0 ≤ (S : Int) ∧ (S : Int) < 2 ^ (6 : Int).toNat) = true := by simp; omega
          have HG : Hid (gameB xs 6 (S : Int) = (Plain.fallsB xs 63 && !Plain.fallsB xs S)) := Lib.hid (by unfold gameB goodB; rw [hw, e9]; simp)
          clear hw hd hp e9
          obtain ⟨f1, hf1⟩ : ∃ f, f = Plain.fallsB xs S := ⟨_, rfl⟩
          obtain ⟨f2, hf2⟩ : ∃ f, f = Plain.fallsB xs 63 := ⟨_, rfl⟩
          rw [← hf1, ← hf2] at HG
          have F1 := Lib.hid hf1
          have F2 := Lib.hid hf2
          clear hf1 hf2
          rw [HG.out]
          cases f1 with
          | true =>
            go_enter Try.func20, Try.ntmps20
            go_wp2_with fail
            refine (l2Word_any a cap xs _ h h64 hl).mono ?_
            rw [HWB.out]
            rintro e w' ⟨rfl, rfl⟩
            go_wp2_with fail
            refine (l1In_any 6 1 6 _ (by omega)).mono ?_
            rw [show decide ((1 : Int) ≤ 6 ∧ (6 : Int) ≤ 6) = true by decide]
            rintro e w' ⟨rfl, rfl⟩
            go_wp2_with fail
            refine (l1In_any (S : Int) 0 63 _ (by omega)).mono ?_
            rw [HD.out]
            rintro e w' ⟨rfl, rfl⟩
            go_wp2_with fail
            refine (l3Falls_any a cap xs S _ h HL (by omega) hS).mono ?_
            rw [← F1.out]
            rintro e w1 ⟨rfl, hb1⟩
            have HB1 := Lib.hid hb1
            clear hb1
            go_wp2_with fail
            go_ret
            exact ⟨ret_bool (by simp), HB1.out⟩
          | false =>
            go_enter Try.func20, Try.ntmps20
            go_wp2_with fail
            refine (l2Word_any a cap xs _ h h64 hl).mono ?_
            rw [HWB.out]
            rintro e w' ⟨rfl, rfl⟩
            go_wp2_with fail
            refine (l1In_any 6 1 6 _ (by omega)).mono ?_
            rw [show decide ((1 : Int) ≤ 6 ∧ (6 : Int) ≤ 6) = true by decide]
            rintro e w' ⟨rfl, rfl⟩
            go_wp2_with fail
            refine (l1In_any (S : Int) 0 63 _ (by omega)).mono ?_
            rw [HD.out]
            rintro e w' ⟨rfl, rfl⟩
            go_wp2_with fail
            refine (l3Falls_any a cap xs S _ h HL (by omega) hS).mono ?_
            rw [← F1.out]
            rintro e w1 ⟨rfl, hb1⟩
            have HB1 := Lib.hid hb1
            clear hb1
            go_wp2_with fail
            refine (l3Falls_any a cap xs 63 _ (Lib.hid (h.out.on HB1.out)) HL (by omega) (by omega)).mono ?_
            rw [← F2.out]
            rintro e w2 ⟨rfl, hb2⟩
            have HB2 := Lib.hid (HB1.out.trans (hb2.mono HB1.out.size))
            clear hb2
            go_wp2_with fail
            go_ret
            exact ⟨ret_bool (by simp), HB2.out⟩
        · have hd : decide (0 ≤ s ∧ s ≤ 63) = false := by simpa using hp
          have HD := Lib.hid hd
          have e9 : decide (0 ≤ s ∧ s < 2 ^ (6 : Int).toNat) = false := by simp; omega
          have HE : Hid (gameB xs 6 s = false) := Lib.hid (by unfold gameB goodB; rw [e9]; simp)
          clear hw hd hp e9
          go_enter Try.func20, Try.ntmps20
          go_wp2_with fail
          refine (l2Word_any a cap xs _ h h64 hl).mono ?_
          rw [HWB.out]
          rintro e w' ⟨rfl, rfl⟩
          go_wp2_with fail
          refine (l1In_any 6 1 6 _ (by omega)).mono ?_
          rw [show decide ((1 : Int) ≤ 6 ∧ (6 : Int) ≤ 6) = true by decide]
          rintro e w' ⟨rfl, rfl⟩
          go_wp2_with fail
          refine (l1In_any s 0 63 _ hs).mono ?_
          rw [HD.out]
          rintro e w' ⟨rfl, rfl⟩
          go_wp2_with fail
          go_ret
          exact ⟨ret_bool HE.out.symm, Below.refl _ _⟩
    · have HN : Hid (decide (1 ≤ n ∧ n ≤ 6) = false) := Lib.hid (by simpa using hn)
      have HE : Hid (gameB xs n s = false) := Lib.hid (by unfold gameB goodB; rw [HN.out]; simp)
      clear hw hn
      go_enter Try.func20, Try.ntmps20
      go_wp2_with fail
      refine (l2Word_any a cap xs _ h h64 hl).mono ?_
      rw [HWB.out]
      rintro e w' ⟨rfl, rfl⟩
      go_wp2_with fail
      refine (l1In_any n 1 6 _ hnr).mono ?_
      rw [HN.out]
      rintro e w' ⟨rfl, rfl⟩
      go_wp2_with fail
      go_ret
      exact ⟨ret_bool HE.out.symm, Below.refl _ _⟩
theorem l9Out_any (s p q : Nat) (w : World) (hs : s < 64) (hp : p < 6) (hq : (2 : Int) ^ p = (q : Int)) : Calls Try.prog 48 #[.int .i64 (s : Int), .int .i64 ((p : Int) + 1)] w fun e w' => e = .returned (.int .i64 ((s ||| q : Nat) : Int)) ∧ w = w' := by
  have hq64 : q < 64 := by
    rw [pow_nat] at hq
    have : 2 ^ p < 2 ^ 6 := Nat.pow_lt_pow_right (by omega) hp
    omega
  have ho := or_small s q hs hq64
  have hq32 : q ≤ 32 := by
    have h1 : (2 : Nat) ^ p = q := by exact_mod_cast hq
    rw [← h1]
    exact Nat.le_trans (Nat.pow_le_pow_right (by decide) (by omega : p ≤ 5)) (by decide)
  go_enter Try.func48, Try.ntmps48
  go_wp2_with fail
  go_ret
  exact ⟨rfl, rfl⟩
def inTo (m s k : Nat) : List Nat := (List.range k).filter fun p => !s.testBit p
theorem inTo_step (m s k : Nat) : nailZ (inTo m s (k + 1)) = if s.testBit k = true then nailZ (inTo m s k) else nailZ (inTo m s k) ++ [(k : Int) + 1] := by
  unfold inTo nailZ
  rw [List.range_succ, List.filter_append]
  cases h : s.testBit k <;> simp [h]
theorem inTo_le (m s k : Nat) : (nailZ (inTo m s k)).length ≤ k := by
  unfold inTo nailZ
  have := List.length_filter_le (fun p => !s.testBit p) (List.range k)
  simpa using this
theorem inTo_all {n : Nat} (s : Nat) (hn : n ≤ 6) : inTo (2 ^ n - 1) s n = Plain.inP (2 ^ n - 1) s := by
  unfold inTo Plain.inP
  have h6 : List.range 6 = List.range n ++ (List.range (6 - n)).map (n + ·) := by rw [← List.range_add]; congr 1; omega
  rw [h6, List.filter_append]
  have e : ((List.range (6 - n)).map (n + ·)).filter (fun p => (2 ^ n - 1).testBit p && !s.testBit p) = [] := by
    rw [List.filter_eq_nil_iff]
    intro p hp
    obtain ⟨q, -, rfl⟩ := List.mem_map.1 hp
    rw [Nat.testBit_two_pow_sub_one, show decide (n + q < n) = false by simp]
    simp
  rw [e, List.append_nil]
  refine List.filter_congr fun p hp => ?_
  rw [Nat.testBit_two_pow_sub_one]
  simp [List.mem_range.1 hp]
set_option maxRecDepth 100000 in
set_option maxHeartbeats 800000 in
theorem l9Moves_any (n s : Nat) (w : World) (hn : n ≤ 6) (hs : s < 64) :
    Calls Try.prog 47 #[.int .i64 (n : Int), .int .i64 (s : Int)] w (OwnL (nailZ (Plain.inP (2 ^ n - 1) s)) w) := by
  obtain ⟨i0, hi0, hz0, hz1, hz2⟩ := info_parts infoInt
  have HS := Lib.hid (coll_start w)
  obtain ⟨m, hm⟩ : ∃ m, m = 2 ^ n - 1 := ⟨_, rfl⟩
  have HALL : Hid (inTo m s n = Plain.inP m s) := Lib.hid (by rw [hm]; exact inTo_all s hn)
  rw [← hm]
  clear hm
  go_enter Try.func47, Try.ntmps47
  go_wp2_with fail
  go_loopw [5, 6] (fun u i wr => ∃ k : Nat, k ≤ n ∧ i = .int .i64 ((k : Int) + 1) ∧ Coll (nailZ (inTo m s k)) w.heap.size w u wr) (fun _ i _ => 8 - (intOf i).toNat)
  case atStart => exact ⟨0, Nat.zero_le _, rfl, HS.out⟩
  case round =>
    obtain ⟨k, hk, rfl, hrel⟩ := hrel
    have hll := inTo_le m s k
    by_cases hlt : k < n
    · have HK := Lib.hid hrel
      have HST := Lib.hid (inTo_step m s k)
      obtain ⟨L, hL⟩ : ∃ L, L = nailZ (inTo m s k) := ⟨_, rfl⟩
      rw [← hL] at HK hll HST
      have hi : (k : Int) + 1 ≤ (n : Int) := by omega
      clear hrel hL
      go_wp2_with fail
      refine (l3In_any s k _ hs (by omega)).mono ?_
      rintro e w' ⟨rfl, rfl⟩
      cases hb : s.testBit k with
      | true =>
        have HN : Hid (nailZ (inTo m s (k + 1)) = L) := Lib.hid (by rw [HST.out, hb]; exact if_pos rfl)
        clear hb HST
        go_wp2_with fail
        go_roundw
        case rel => exact ⟨k + 1, by omega, by go_num, by rw [HN.out]; exact HK.out⟩
        case measure => simp [intOf]; omega
      | false =>
        have HN : Hid (nailZ (inTo m s (k + 1)) = L ++ [(k : Int) + 1]) := Lib.hid (by rw [HST.out, hb]; exact if_neg (by simp))
        clear hb HST
        go_wp2_with (at_builtin; refine wpList_append_own _ rfl _ _ 22 rfl w.heap.size 3 i0 (.int .i64 0) 1 8 Try.underlying22 hi0 hz0 hz1 hz2 rfl (by decide) _ _ _ rfl (HK.out.1.alloc _) ⟨wr.heap.size, 0, none⟩ 1 1 [.int .i64 ((k : Int) + 1)] rfl rfl ?c1 ?c2 ?c3 ?c4 ?c5 ?_)
        case c1 => exact cell_one_new _ _ _
        case c2 => simp [Value.oneCell']
        case c3 => unfold maxLen; omega
        case c4 => omega
        case c5 => exact Nat.le_trans HK.out.2.2 (by simp)
        intro v' w2 hown' hgrow _
        have hR := Lib.hid (coll_push (x := (k : Int) + 1) HK.out hown' hgrow)
        clear hown' hgrow
        go_wp2_with fail
        go_roundw
        case rel => exact ⟨k + 1, by omega, by go_num, by rw [HN.out]; exact hR.out⟩
        case measure => simp [intOf]; omega
    · obtain rfl : k = n := by omega
      have HR := Lib.hid hrel
      rw [HALL.out] at HR
      clear hrel
      go_wp2_with fail
      go_ret
      exact ⟨_, rfl, HR.out.1, HR.out.2.1⟩
/-- A list beside the one that is appended to. -/
def Beside (ma : Option Addr) (ys : List Int) (v : Value) (wr : World) : Prop := Ints wr ma ys ∧ ∀ b o, ma = some ⟨b, o, none⟩ → b < wr.heap.size ∧ v.ownBlock ≠ some b
theorem Beside.later {ma : Option Addr} {ys : List Int} {v : Value} {wr w1 : World} (h : Beside ma ys v wr) (hb : Below wr.heap.size wr w1) : Beside ma ys v w1 :=
  ⟨h.1.on hb, fun b o e => ⟨Nat.lt_of_lt_of_le (h.2 b o e).1 hb.size, (h.2 b o e).2⟩⟩
theorem beside_start {w1 w2 : World} {ma : Option Addr} {n mc B : Nat} {ys : List Int} {l : List Value} (hown : w2.ownsRow w1.heap.size 3 1 (.slice ma n mc) n l) (hi : Ints w2 ma ys) (hB : B < w1.heap.size) : Beside ma ys (.slice (some ⟨B, 0, none⟩) 0 0) w2 := by
  refine ⟨hi, fun b o e => ?_⟩
  subst e
  have := hown.lt b rfl
  exact ⟨this.2, fun e => by have e2 : B = b := Option.some.inj e; omega⟩
theorem Beside.push {ma : Option Addr} {ys : List Int} {v v' : Value} {wr w1 : World} {o : Obj} (h : Beside ma ys v wr) (hgrow : (wr.alloc o).grownBy w1 v.ownBlock) (hat : v'.ownBlock = v.ownBlock ∨ v'.ownBlock = some (wr.heap.size + 1)) : Beside ma ys v' w1 := by
  have hs : (wr.alloc o).heap.size = wr.heap.size + 1 := by simp
  refine ⟨fun j y hy => ?_, fun b o' e => ?_⟩
  · obtain ⟨b, o', e, hc⟩ := (h.1.on ((Below.refl _ wr).alloc (Nat.le_refl _) o)) j y hy
    exact ⟨b, o', e, hgrow.cell hc (fun e' => (h.2 b o' e).2 e'.symm)⟩
  · obtain ⟨h1, h2⟩ := h.2 b o' e
    refine ⟨by have := hgrow.size; omega, fun e' => ?_⟩
    rcases hat with q | q
    · exact h2 (by rw [← q]; exact e')
    · rw [e'] at q
      have := Option.some.inj q
      omega
theorem nailZ_at {l : List Nat} {k p : Nat} (h : l[k]? = some p) : (nailZ l)[k]? = some ((p : Int) + 1) := by simp [nailZ, h]

end Go.Proofs.Ytpaijobmoddgpab
