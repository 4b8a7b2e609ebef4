/- spec.IsWord and impl.IsWord hand back the same. Condition: at most 2^20 numbers. -/
import Derived.Test.YtbapggpnpfiaaaaLawKit
import Derived.Test.YtbapggpnpfiaaaaWordWalks
namespace Go.Proofs.Ytbapggpnpfiaaaa
open Go.ChangeShapes Go.WideShapes Go.ChangeAt Go.RowKit

theorem specIsWord_any (a : Option Addr) (cap : Nat) (xs : List Int) (w : World) (h : Hid (Ints w a xs)) (h64 : Hid (In64 xs)) (hn : xs.length ≤ 9223372036854775807) :
    Calls Try.prog 60 #[.slice a xs.length cap] w fun e w' => e = .returned (.bool (Plain.wordB xs)) ∧ w = w' := by
  go_enter Try.func60, Try.ntmps60
  go_wp2_with (go_at_call 67; refine (l2Word_any _ _ xs _ h h64 hn).mono ?_; rintro e w' ⟨rfl, rfl⟩)
  go_ret
  exact ⟨rfl, rfl⟩
theorem bothIsWord (xs : List Int) (h64 : Hid (In64 xs)) (hn : xs.length ≤ 1048576) : ∃ b : Bool,
    (∀ a cap w, Hid (Ints w a xs) → Calls Try.prog 60 #[.slice a xs.length cap] w (Val (.bool b) w)) ∧
    (∀ a cap w, Hid (Ints w a xs) → Calls Try.prog 23 #[.slice a xs.length cap] w (Val (.bool b) w)) :=
  ⟨Plain.wordB xs, fun a cap w h => (specIsWord_any a cap xs w h h64 (by omega)).mono fun _ _ => val_same, fun a cap w h => (isWord_any a cap xs w h h64 (by omega)).mono fun _ _ => val_same⟩
end Go.Proofs.Ytbapggpnpfiaaaa
