/- Both programs of stage 4 answer alike: the contracts of spec and impl side by side. Conditions: numbers of 64 bits, lengths that fit. -/
import Derived.Test.YtllmglmjghbaiacWicksTop
import Derived.Test.YtllmglmjghbaiacWicksSpec
namespace Go.Proofs.Ytllmglmjghbaiac
open Go.ChangeShapes Go.WideShapes Go.ChangeAt Go.RowKit
set_option linter.unusedVariables false

theorem wicks_le (xs : List Int) : (wicksA xs).length ≤ 1048576 ∧ (wicksB xs).length ≤ 1048576 ∧ (wicksC xs).length ≤ 1048576 ∧ (wicksA xs).length + (wicksB xs).length ≤ 1048576 := by
  have hc : wicksAt xs ≠ none → ∀ j, (wicksT xs j).length ≤ 64 := by
    intro h j
    have hw : Plain.wordB xs = true := by
      cases hb : Plain.wordB xs with
      | true => rfl
      | false => exact absurd (by rw [wicksAt, if_neg (by rw [hb]; simp)]) h
    have h1 := (Plain.wordB_iff.1 hw).1
    have h2 := Plain.red_length xs
    have h3 : (Plain.core (Plain.red xs)).length ≤ (Plain.red xs).length := by simp [Plain.core, Plain.mid]; omega
    rw [wicksT, turn_length]
    omega
  cases hw : wicksAt xs with
  | none => obtain ⟨h1, h2, h3, -⟩ := wicks_none hw; rw [h1, h2, h3]; simp
  | some t =>
    obtain ⟨j, i, k⟩ := t
    obtain ⟨h1, h2, h3, -⟩ := wicks_some hw
    have h4 := hc (by rw [hw]; simp) j
    rw [h1, h2, h3]
    simp only [List.length_take, List.length_drop]
    omega
theorem bothWicksParts (xs : List Int) (h64 : Hid (In64 xs)) (hn : xs.length ≤ 1048576) : ∃ (o1 o2 o3 : List Int) (k : Int) (b : Bool), o1.length ≤ 1048576 ∧ o2.length ≤ 1048576 ∧ o3.length ≤ 1048576 ∧ o1.length + o2.length ≤ 1048576 ∧
    (∀ a cap w, Hid (Ints w a xs) → Calls Try.prog 9 #[.slice a xs.length cap] w (SSSIB o1 o2 o3 k b w)) ∧
    (∀ a cap w, Hid (Ints w a xs) → Calls Try.prog 10 #[.slice a xs.length cap] w (SSSIB o1 o2 o3 k b w)) :=
  ⟨_, _, _, _, _, (wicks_le xs).1, (wicks_le xs).2.1, (wicks_le xs).2.2.1, (wicks_le xs).2.2.2, fun a cap w h => specWicks_any a cap xs w h h64 (by omega), fun a cap w h => implWicks_any a cap xs w h h64 (by omega)⟩

end Go.Proofs.Ytllmglmjghbaiac
