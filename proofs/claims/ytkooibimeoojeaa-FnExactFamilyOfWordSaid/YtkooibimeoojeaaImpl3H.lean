/- Contract: impl.FewestNails. Conditions: numbers of 64 bits, lengths that fit. -/
import Derived.Test.YtkooibimeoojeaaImpl3G
import Derived.Test.YtkooibimeoojeaaFewMath
namespace Go.Proofs.Ytkooibimeoojeaa
open Go.ChangeShapes Go.WideShapes Go.ChangeAt Go.RowKit
set_option linter.unusedVariables false

set_option maxRecDepth 100000 in
set_option maxHeartbeats 1000000 in
theorem implFewestNails_any (a : Option Addr) (cap : Nat) (xs : List Int) (w : World) (h : Hid (Ints w a xs)) (h64 : Hid (In64 xs)) (hn : xs.length ≤ 9223372036854775807) :
    Calls Try.prog 23 #[.slice a xs.length cap] w (Val (.tuple #[.int .i64 (manyW xs : Nat), .int .i64 (bestW xs : Nat), .bool (Plain.wordB xs)]) w) := by
  cases hw : Plain.wordB xs with
  | false =>
    have HE := Lib.hid (bestW_no hw)
    have HE2 := Lib.hid (manyW_no hw)
    have HW := Lib.hid hw
    clear hw
    go_enter Try.func23, Try.ntmps23
    go_wp2_with fail
    refine (isWord_any _ _ xs _ h h64 hn).mono ?_
    rw [HW.out]
    rintro e w' ⟨rfl, rfl⟩
    go_wp2_with fail
    go_ret3
    exact val_iib HE2.out.symm HE.out.symm ⟨rfl, Below.refl _ _⟩
  | true =>
    have m1 := (Plain.wordB_iff.1 hw).1
    have HL := Lib.hid (Plain.wordB_iff.1 hw).2
    have HE := Lib.hid (bestW_yes hw)
    have HE2 := Lib.hid (manyW_yes hw)
    have HW := Lib.hid hw
    clear hw
    obtain ⟨t, ht⟩ : ∃ t, t = Plain.fallsB xs := ⟨_, rfl⟩
    rw [← ht] at HE HE2
    have HTT := Lib.hid ht
    clear ht
    go_enter Try.func23, Try.ntmps23
    go_wp2_with fail
    refine (isWord_any _ _ xs _ h h64 hn).mono ?_
    rw [HW.out]
    rintro e w' ⟨rfl, rfl⟩
    go_wp2_with fail
    refine (fallTable_any _ _ xs _ h HL (by omega)).mono ?_
    rw [← HTT.out]
    rintro e w1 ⟨rfl, hb⟩
    have HB := Lib.hid hb
    clear hb
    go_wp2_with fail
    go_loop [5, 13] (fun b i => ∃ k : Nat, k ≤ 64 ∧ i = .int .i64 (k : Int) ∧ b = .int .i64 (Plain.fewTo t k : Nat)) (fun _ i => 64 - (intOf i).toNat)
    case atStart => exact ⟨0, Nat.zero_le _, rfl, rfl⟩
    case round =>
      obtain ⟨k, hk, rfl, rfl⟩ := hrel
      have hb64 := Plain.fewTo_lt t k hk
      obtain ⟨b, hbb⟩ : ∃ b, b = Plain.fewTo t k := ⟨_, rfl⟩
      rw [← hbb] at hb64 ⊢
      by_cases hlt : k < 64
      · have hidx := fun W => run_index64 t k W hlt
        have HN : Hid (Plain.fewTo t (k + 1) = if (t k && decide (Plain.many k < Plain.many b)) = true then k else b) := Lib.hid (by rw [Plain.fewTo, ← hbb])
        have hi1 : (k : Int) < 64 := by omega
        clear hbb
        cases hts : t k with
        | false =>
          rw [hts] at HN hidx
          have HN2 : Hid (Plain.fewTo t (k + 1) = b) := Lib.hid HN.out
          clear hts HN
          go_wp2_with fail
          go_round
          case rel => exact ⟨k + 1, by omega, by go_num, by rw [HN2.out]⟩
          case measure => simp [intOf]; omega
        | true =>
          rw [hts] at HN hidx
          clear hts
          go_wp2_with fail
          refine (sizeOf_any k _ hlt).mono ?_
          rintro e w' ⟨rfl, rfl⟩
          go_wp2_with fail
          refine (sizeOf_any b _ hb64).mono ?_
          rintro e w' ⟨rfl, rfl⟩
          by_cases hle : Plain.many k < Plain.many b
          · have HN2 : Hid (Plain.fewTo t (k + 1) = k) := Lib.hid (by rw [HN.out]; simp [hle])
            have hle1 : ((Plain.many k : Nat) : Int) < ((Plain.many b : Nat) : Int) := by omega
            clear hle HN
            go_wp2_with fail
            go_round
            case rel => exact ⟨k + 1, by omega, by go_num, by rw [HN2.out]⟩
            case measure => simp [intOf]; omega
          · have HN2 : Hid (Plain.fewTo t (k + 1) = b) := Lib.hid (by rw [HN.out]; simp [hle])
            have hle1 : ¬ ((Plain.many k : Nat) : Int) < ((Plain.many b : Nat) : Int) := by omega
            clear hle HN
            go_wp2_with fail
            go_round
            case rel => exact ⟨k + 1, by omega, by go_num, by rw [HN2.out]⟩
            case measure => simp [intOf]; omega
      · obtain rfl : k = 64 := by omega
        have HBB : Hid (b = Plain.best t) := Lib.hid (hbb.trans (Plain.few_best t))
        clear hbb
        go_wp2_with fail
        refine (sizeOf_any b _ hb64).mono ?_
        rintro e w' ⟨rfl, rfl⟩
        go_wp2_with fail
        go_ret3
        exact val_iib (by rw [HE2.out, HBB.out]) (by rw [HE.out, HBB.out]) ⟨rfl, HB.out⟩

end Go.Proofs.Ytkooibimeoojeaa
