/- Contracts: impl.FormatInt and spec.FormatInt return the decimal text of an int within the bounds, and fail outside. Condition: the library's table of powers of ten lies as its initialiser lays it. -/
import Derived.Test.YtaepmgfodjjidaaDoorNumWalks
import Derived.Test.YtaepmgfodjjidaaDoorLaid
import Derived.Lib.AppendIntMem
import Derived.WalkSmall
import Derived.Lib.SmallJoins
namespace Go.Proofs.YtaepmgfodjjidaaDoor
open Go.ChangeShapes Go.WideShapes Go.ChangeAt Go.RowKit

def Tab (w : World) : Prop := Lib.TabIs Tryd.prog w "internal/strconv.uint64pow10" .u64 Lib.pow10Tab
theorem Tab.on {w w' : World} (h : Tab w) (hb : Below w.heap.size w w') : Tab w' := Joins.tab_stays gPow h hb (Nat.le_refl _)

theorem itoa_any (n : Int) (h0 : -999999 ≤ n) (h1 : n ≤ 999999) (w : World) (hT : Hid (Tab w)) :
    Calls Tryd.prog 16 #[.int .i64 n] w fun e w' => e = .returned (.string (Plain.intS n)) ∧ Below w.heap.size w w' := by
  refine (Tryd.strconv_Itoa n (by omega) (by omega) w hT.out).mono ?_
  rintro e w' ⟨rfl, k, os, rfl⟩
  exact ⟨rfl, Lib.below_grow _ w (Nat.le_refl _) k os⟩

theorem implFormatInt_out (n : Int) (h0 : -9223372036854775808 ≤ n) (h1 : n ≤ 9223372036854775807) (h : n < -999999 ∨ 999999 < n) (w : World) :
    Calls Tryd.prog 7 #[.int .i64 n] w fun e w' => e = .returned (.tuple #[.string ByteArray.empty, .bool false]) ∧ w = w' := by
  rcases h with h | h
  · go_enter Tryd.func7, Tryd.ntmps7
    go_wp2
    go_ret2
    exact ⟨rfl, rfl⟩
  · have h' : ¬ n < -999999 := by omega
    go_enter Tryd.func7, Tryd.ntmps7
    go_wp2
    go_ret2
    exact ⟨rfl, rfl⟩

theorem implFormatInt_any (n : Int) (h0 : -999999 ≤ n) (h1 : n ≤ 999999) (w : World) (hT : Hid (Tab w)) :
    Calls Tryd.prog 7 #[.int .i64 n] w fun e w' => e = .returned (.tuple #[.string (Plain.intS n), .bool true]) ∧ Below w.heap.size w w' := by
  go_enter Tryd.func7, Tryd.ntmps7
  go_wp2_with (go_at_call 16; refine (itoa_any n h0 h1 _ hT).mono ?_; rintro e w1 ⟨rfl, hb⟩)
  go_ret2
  exact ⟨rfl, hb⟩

theorem specFormatInt_out (n : Int) (h0 : -9223372036854775808 ≤ n) (h1 : n ≤ 9223372036854775807) (h : n < -999999 ∨ 999999 < n) (w : World) :
    Calls Tryd.prog 6 #[.int .i64 n] w fun e w' => e = .returned (.tuple #[.string ByteArray.empty, .bool false]) ∧ w = w' := by
  rcases h with h | h
  · have h' : ¬ -999999 ≤ n := by omega
    go_enter Tryd.func6, Tryd.ntmps6
    go_wp2
    go_ret2
    exact ⟨rfl, rfl⟩
  · have h' : -999999 ≤ n := by omega
    have hd : decide (n ≤ 999999) = false := decide_eq_false (by omega)
    go_enter Tryd.func6, Tryd.ntmps6
    go_wp2
    go_ret2
    exact ⟨rfl, rfl⟩

theorem specFormatInt_any (n : Int) (h0 : -999999 ≤ n) (h1 : n ≤ 999999) (w : World) :
    Calls Tryd.prog 6 #[.int .i64 n] w fun e w' => e = .returned (.tuple #[.string (Plain.intS n), .bool true]) ∧ ∃ m, w' = w.drewN m := by
  go_enter Tryd.func6, Tryd.ntmps6
  go_wp2_with (first | (go_at_call 15; refine (l1Num_any n (by omega) (by omega) _).mono ?_; rintro e w1 ⟨rfl, m, rfl⟩) | go_in)
  go_ret2
  exact ⟨rfl, _, rfl⟩

end Go.Proofs.YtaepmgfodjjidaaDoor
