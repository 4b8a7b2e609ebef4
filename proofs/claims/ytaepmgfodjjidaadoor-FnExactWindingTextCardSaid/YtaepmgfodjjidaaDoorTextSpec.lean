/- Contract: spec.l2Text returns the text of a list of letters. Conditions: letters, a length that fits. -/
import Derived.Test.YtaepmgfodjjidaaDoorLessWalks
import Derived.Test.YtaepmgfodjjidaaDoorLawKit
namespace Go.Proofs.YtaepmgfodjjidaaDoor
open Go.ChangeShapes Go.WideShapes Go.ChangeAt Go.RowKit
set_option linter.unusedVariables false

/-- The byte of a letter. -/
def signNat (x : Int) : Nat := if x < 0 then (65 - x - 1).toNat else (97 + x - 1).toNat
def signB (x : Int) : UInt8 := UInt8.ofNat (signNat x)
theorem sign_six {x : Int} (hx : x ≠ 0 ∧ -6 ≤ x ∧ x ≤ 6) : x = 1 ∨ x = -1 ∨ x = 2 ∨ x = -2 ∨ x = 3 ∨ x = -3 ∨ x = 4 ∨ x = -4 ∨ x = 5 ∨ x = -5 ∨ x = 6 ∨ x = -6 := by omega
def textB (l : List Int) : List UInt8 := l.map signB
def textOf (l : List Int) : ByteArray := ⟨(textB l).toArray⟩
theorem textOf_nil : textOf [] = ⟨#[]⟩ := rfl
theorem textOf_snoc (l : List Int) (x : Int) : textOf (l ++ [x]) = textOf l ++ ⟨#[signB x]⟩ := by
  apply ByteArray.ext
  simp [textOf, textB]
theorem textOf_size (l : List Int) : (textOf l).size = l.length := by simp [textOf, textB, ByteArray.size]

theorem cp1 : Plain.codeOf (1) = 0 := by decide
theorem cm1 : Plain.codeOf (-1) = 1 := by decide
theorem cp2 : Plain.codeOf (2) = 2 := by decide
theorem cm2 : Plain.codeOf (-2) = 3 := by decide
theorem cp3 : Plain.codeOf (3) = 4 := by decide
theorem cm3 : Plain.codeOf (-3) = 5 := by decide
theorem cp4 : Plain.codeOf (4) = 6 := by decide
theorem cm4 : Plain.codeOf (-4) = 7 := by decide
theorem cp5 : Plain.codeOf (5) = 8 := by decide
theorem cm5 : Plain.codeOf (-5) = 9 := by decide
theorem cp6 : Plain.codeOf (6) = 10 := by decide
theorem cm6 : Plain.codeOf (-6) = 11 := by decide
theorem l2Code_left (x : Int) (w : World) (h : -6 ≤ x ∧ x ≤ 6) : Calls Tryd.prog 31 #[.int .i64 x] w fun e w' => e = .returned (.int .i64 (Plain.codeOf x)) ∧ w = w' := (l2Code_any x w h).mono fun _ _ h => ⟨h.1, h.2.symm⟩
set_option maxRecDepth 100000 in
set_option maxHeartbeats 1000000 in
theorem l2Text_any (a : Option Addr) (cap : Nat) (xs : List Int) (w : World) (h : Hid (Ints w a xs)) (hl : Hid (Plain.Letters xs)) (hn : xs.length ≤ 1048576) :
    Calls Tryd.prog 21 #[.slice a xs.length cap] w fun e w' => e = .returned (.string (textOf xs)) ∧ w = w' := by
  go_enter Tryd.func21, Tryd.ntmps21
  go_wp2
  go_loop [3, 4] (fun s i => ∃ k : Nat, k ≤ xs.length ∧ i = .int .i64 k ∧ s = .string (textOf (xs.take k))) (fun _ i => xs.length - (intOf i).toNat)
  case atStart => exact ⟨0, Nat.zero_le _, rfl, rfl⟩
  case round =>
    obtain ⟨k, hk, rfl, rfl⟩ := hrel
    by_cases hlt : k < xs.length
    · obtain ⟨x, hx⟩ := at_some xs k hlt
      obtain ⟨b, o, rfl, hc⟩ := h.out k x hx
      have hx6 := hl.out.at hx
      have HT : Hid (textOf (xs.take (k + 1)) = textOf (xs.take k) ++ ⟨#[signB x]⟩) := Lib.hid (by rw [Plain.take_snoc hx, textOf_snoc])
      have hsz : ((textOf (xs.take k)).size : Int) ≤ 1048576 := by rw [textOf_size]; simp; omega
      generalize textOf (xs.take k) = t at HT hsz ⊢
      clear hx
      rcases sign_six hx6 with rfl | rfl | rfl | rfl | rfl | rfl | rfl | rfl | rfl | rfl | rfl | rfl
      all_goals clear hx6
      all_goals
        go_wp2_with fail
        refine (l2Code_left _ _ (by omega)).mono ?_
        simp only [cp1, cm1, cp2, cm2, cp3, cm3, cp4, cm4, cp5, cm5, cp6, cm6]
        rintro e w' ⟨rfl, rfl⟩
        go_wp2
        go_round
        case rel => exact ⟨k + 1, by omega, by go_num, by rw [HT.out]; rfl⟩
        case measure => simp [intOf]; omega
    · obtain rfl : k = xs.length := by omega
      rw [List.take_length]
      go_wp2
      go_ret
      exact ⟨rfl, rfl⟩

end Go.Proofs.YtaepmgfodjjidaaDoor
