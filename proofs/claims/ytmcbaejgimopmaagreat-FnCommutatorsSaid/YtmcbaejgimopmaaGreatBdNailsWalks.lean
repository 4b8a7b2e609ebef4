/- Contract: spec.l1Most returns the greater one of two numbers. Condition: small numbers. -/
import Derived.Test.YtmcbaejgimopmaaGreatBdSetKit
import Derived.Test.YtmcbaejgimopmaaGreatInts
import Derived.Test.YtmcbaejgimopmaaGreatLawKit
import Derived.Test.YtmcbaejgimopmaaGreatWord
import Derived.Test.YtmcbaejgimopmaaGreatWordWalks
import Derived.Laws.BitsAllLaws
namespace Go.Proofs.YtmcbaejgimopmaaGreat
open Go.ChangeShapes Go.WideShapes Go.ChangeAt Go.RowKit
set_option linter.unusedVariables false

theorem l1Most_ge (x y : Int) (w : World) (h : y ≤ x) (hx : -100 ≤ x ∧ x ≤ 100) (hy : -100 ≤ y ∧ y ≤ 100) : Calls Tryz.prog 72 #[.int .i64 x, .int .i64 y] w fun e w' => e = .returned (.int .i64 x) ∧ w = w' := by
  by_cases he : y < x
  · go_enter Tryz.func72, Tryz.ntmps72
    go_wp2
    go_ret
    exact ⟨rfl, rfl⟩
  · obtain rfl : x = y := by omega
    go_enter Tryz.func72, Tryz.ntmps72
    go_wp2
    go_ret
    exact ⟨rfl, rfl⟩
theorem l1Most_le (x y : Int) (w : World) (h : x < y) (hx : -100 ≤ x ∧ x ≤ 100) (hy : -100 ≤ y ∧ y ≤ 100) : Calls Tryz.prog 72 #[.int .i64 x, .int .i64 y] w fun e w' => e = .returned (.int .i64 y) ∧ w = w' := by
  have h2 : ¬ y < x := by omega
  go_enter Tryz.func72, Tryz.ntmps72
  go_wp2
  go_ret
  exact ⟨rfl, rfl⟩

end Go.Proofs.YtmcbaejgimopmaaGreat

/- Contracts: impl.nailOf and spec.l2Nail return the nail of a letter. Condition: a number from -6 to 6. -/
namespace Go.Proofs.YtmcbaejgimopmaaGreat
open Go.ChangeShapes Go.WideShapes Go.ChangeAt Go.RowKit
set_option linter.unusedVariables false

theorem nailOf_any (x : Int) (w : World) (h : -6 ≤ x ∧ x ≤ 6) : Calls Tryz.prog 96 #[.int .i64 x] w fun e w' => e = .returned (.int .i64 (Plain.nail x)) ∧ w' = w := by
  obtain ⟨h1, h2⟩ := h
  by_cases hp : 0 < x
  · have HC : Hid (Plain.nail x = x) := Lib.hid (if_pos hp)
    have hm : ¬ x < -x := by omega
    go_enter Tryz.func96, Tryz.ntmps96
    go_wp2
    all_goals
      go_ret
      exact ⟨ret_int (by have := HC.out; omega), rfl⟩
  · have HC : Hid (Plain.nail x = -x) := Lib.hid (if_neg hp)
    have hm : ¬ -x < x := by omega
    go_enter Tryz.func96, Tryz.ntmps96
    go_wp2
    all_goals
      go_ret
      exact ⟨ret_int (by have := HC.out; omega), rfl⟩
theorem nailOf_left (x : Int) (w : World) (h : -6 ≤ x ∧ x ≤ 6) : Calls Tryz.prog 96 #[.int .i64 x] w fun e w' => e = .returned (.int .i64 (Plain.nail x)) ∧ w = w' := (nailOf_any x w h).mono fun _ _ h => ⟨h.1, h.2.symm⟩


end Go.Proofs.YtmcbaejgimopmaaGreat

/- Contracts: spec.NailsOf, impl.NailsOf and what they call return the set of the nails of a word. Conditions: numbers of 64 bits, a length that fits. -/
namespace Go.Proofs.YtmcbaejgimopmaaGreat
open Go.ChangeShapes Go.WideShapes Go.ChangeAt Go.RowKit
set_option linter.unusedVariables false

/-- The set of the nails of a list of letters. -/
def nailStep (s : Nat) (x : Int) : Nat := s ||| 2 ^ ((Plain.nail x).toNat - 1)
def nailSet (l : List Int) : Nat := l.foldl nailStep 0
theorem nailStep_lt {s : Nat} {x : Int} (hs : s < 64) (hx : -6 ≤ x ∧ x ≤ 6) : nailStep s x < 64 := by
  have h : (Plain.nail x).toNat - 1 ≤ 5 := by unfold Plain.nail; split <;> omega
  exact Nat.or_lt_two_pow (n := 6) hs (Nat.lt_of_le_of_lt (Nat.pow_le_pow_right (by decide) h) (by decide))
theorem nailFold_lt (l : List Int) : ∀ s, s < 64 → Plain.Letters l → l.foldl nailStep s < 64 := by
  induction l with
  | nil => intro s hs _; exact hs
  | cons x l ih => intro s hs hl; exact ih _ (nailStep_lt hs (hl x (by simp)).2) (fun y hy => hl y (List.mem_cons_of_mem _ hy))
theorem nailSet_lt {l : List Int} (hl : Plain.Letters l) : nailSet l < 64 := nailFold_lt l 0 (by decide) hl
theorem nailSet_take {l : List Int} {k : Nat} {x : Int} (h : l[k]? = some x) : nailSet (l.take (k + 1)) = nailStep (nailSet (l.take k)) x := by
  rw [Plain.take_snoc h, nailSet, List.foldl_append]
  rfl
theorem take_letters {l : List Int} (h : Plain.Letters l) (k : Nat) : Plain.Letters (l.take k) := fun x hx => h x (List.mem_of_mem_take hx)
/-- The nail of a letter, as a place and a power. -/
theorem nail_parts {x : Int} (hx : x ≠ 0 ∧ -6 ≤ x ∧ x ≤ 6) : ∃ p q : Nat, Plain.nail x = (p : Int) + 1 ∧ p ≤ 5 ∧ (2 : Int) ^ p = (q : Int) ∧ q ≤ 32 ∧ ∀ s, nailStep s x = s ||| q := by
  have h : ∃ p : Nat, Plain.nail x = (p : Int) + 1 ∧ p ≤ 5 := ⟨(Plain.nail x).toNat - 1, by unfold Plain.nail; split <;> omega, by unfold Plain.nail; split <;> omega⟩
  obtain ⟨p, hp, hp5⟩ := h
  refine ⟨p, 2 ^ p, hp, hp5, by simp, ?_, fun s => ?_⟩
  · exact Nat.le_trans (Nat.pow_le_pow_right (by decide) hp5) (by decide)
  · rw [nailStep, hp]
    congr 2


theorem ret_ib {a b : Int} {c d : Bool} (h1 : a = b) (h2 : c = d) : Ending.returned (.tuple #[.int .i64 a, .bool c]) = .returned (.tuple #[.int .i64 b, .bool d]) := by rw [h1, h2]
def nailsOut (xs : List Int) : Int := if Plain.wordB xs = true then (nailSet xs : Nat) else 0
theorem nails_yes {xs : List Int} (h : Plain.wordB xs = true) : nailsOut xs = (nailSet xs : Nat) := if_pos h
theorem nails_no {xs : List Int} (h : Plain.wordB xs = false) : nailsOut xs = 0 := if_neg (by rw [h]; simp)


set_option maxHeartbeats 400000 in
theorem nails_any (a : Option Addr) (cap : Nat) (xs : List Int) (w : World) (h : Hid (Ints w a xs)) (hl : Hid (Plain.Letters xs)) (hn : xs.length ≤ 1048576) :
    Calls Tryz.prog 79 #[.slice a xs.length cap] w fun e w' => e = .returned (.int .i64 (nailSet xs : Nat)) ∧ w = w' := by
  go_enter Tryz.func79, Tryz.ntmps79
  go_wp2
  go_loop [3, 8] (fun s i => ∃ k : Nat, k ≤ xs.length ∧ i = .int .i64 k ∧ s = .int .i64 (nailSet (xs.take k) : Nat)) (fun _ i => xs.length - (intOf i).toNat)
  case atStart => exact ⟨0, Nat.zero_le _, rfl, rfl⟩
  case round =>
    obtain ⟨k, hk, rfl, rfl⟩ := hrel
    have hs64 := nailSet_lt (take_letters hl.out k)
    by_cases hlt : k < xs.length
    · obtain ⟨x, hx⟩ := at_some xs k hlt
      obtain ⟨b, o, rfl, hc⟩ := h.out k x hx
      have HX := Lib.hid (hl.out.at hx).2
      obtain ⟨p, q, hp, hp5, hpow, hq, hstep⟩ := nail_parts (hl.out.at hx)
      have HS := Lib.hid ((nailSet_take hx).trans (hstep _))
      generalize nailSet (xs.take k) = s at HS hs64 ⊢
      have hor := or_small s q hs64 (by omega)
      have HP := Lib.hid hp
      have HW := Lib.hid hpow
      clear hx hstep hp hpow
      go_wp2_with fail
      refine (nailOf_left x _ HX.out).mono ?_
      rw [HP.out]
      rintro e w' ⟨rfl, rfl⟩
      go_wp2_with fail
      refine (nailSet_any p q _ hp5 HW.out).mono ?_
      rintro e w' ⟨rfl, rfl⟩
      go_wp2_with fail
      go_round
      case rel => exact ⟨k + 1, by omega, by go_num, by rw [HS.out]⟩
      case measure => simp [intOf]; omega
    · obtain rfl : k = xs.length := by omega
      rw [List.take_length]
      go_wp2
      go_ret
      exact ⟨rfl, rfl⟩
end Go.Proofs.YtmcbaejgimopmaaGreat
