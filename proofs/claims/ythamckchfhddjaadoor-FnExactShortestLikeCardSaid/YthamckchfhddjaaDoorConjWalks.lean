/- Contracts: slices.Equal; spec.AreConjugate, impl.AreConjugate. Conditions: numbers of 64 bits, lengths that fit. -/
import Derived.Test.YthamckchfhddjaaDoorLeastWalks
import Derived.Test.YthamckchfhddjaaDoorWordWalks
import Derived.Test.YthamckchfhddjaaDoorSame
namespace Go.Proofs.YthamckchfhddjaaDoor
open Go.ChangeShapes Go.WideShapes Go.ChangeAt Go.RowKit
set_option linter.unusedVariables false

set_option maxHeartbeats 400000 in
theorem slicesEqual_any (a b : Option Addr) (ca cb : Nat) (xs ys : List Int) (w : World) (ha : Hid (Ints w a xs)) (hb : Hid (Ints w b ys)) (hn : xs.length ≤ 9223372036854775807) :
    Calls Tryd.prog 40 #[.slice a xs.length ca, .slice b ys.length cb] w (EqPost (decide (xs = ys)) w) := by
  by_cases hl : xs.length = ys.length
  · have HL := Lib.hid hl
    have hll : ((xs.length : Int) != (ys.length : Int)) = false := by rw [hl]; simp
    have hll2 : ((xs.length : Int) == (ys.length : Int)) = true := by rw [hl]; simp
    clear hl
    go_enter Tryd.func40, Tryd.ntmps40
    go_wp2_with fail
    go_loopw [13] (fun i wr => ∃ k : Nat, k ≤ xs.length ∧ i = .int .i64 k ∧ Agree xs ys k ∧ ∃ n, wr = w.drewN n) (fun i _ => xs.length - (intOf i).toNat)
    case atStart => exact ⟨0, Nat.zero_le _, rfl, agree_zero _ _, 0, rfl⟩
    case round =>
      obtain ⟨k, hk, rfl, hag, n, rfl⟩ := hrel
      have HA := Lib.hid hag
      clear hag
      by_cases hlt : k < xs.length
      · obtain ⟨x, hx⟩ := at_some xs k hlt
        obtain ⟨y, hy⟩ := at_some ys k (by have := HL.out; omega)
        obtain ⟨b, o, rfl, hc⟩ := ha.out k x hx
        obtain ⟨b2, o2, rfl, hd⟩ := hb.out k y hy
        have HX := Lib.hid hx
        have HY := Lib.hid hy
        have hlt2 : k < ys.length := at_lt hy
        have hi : (k : Int) < (xs.length : Int) := by omega
        have hi2 : (k : Int) < (ys.length : Int) := by omega
        have hi0 : (0 : Int) ≤ (k : Int) := by omega
        clear hx hy
        by_cases he : x = y
        · subst he
          go_wp2
          go_quiet (fail)
          go_wp2
          go_roundw
          case rel => exact ⟨k + 1, by omega, by go_num, agree_succ HA.out HX.out HY.out, _, rfl⟩
          case measure => simp [intOf]; omega
        · have hne : (x == y) = false := by simpa using he
          have hne2 : (x != y) = true := by simpa using he
          have HD := Lib.hid (eq_differ HX.out HY.out he)
          clear he
          go_wp2
          go_quiet (fail)
          go_wp2
          go_ret
          exact ⟨ret_bool HD.out.symm, _, World.drewN_drewN _ _ _⟩
      · have HD := Lib.hid (eq_agree HL.out (fun j x y hj => HA.out j x y (by omega)))
        have hi : ¬ (k : Int) < (xs.length : Int) := by omega
        go_wp2
        go_ret
        exact ⟨ret_bool HD.out.symm, n, rfl⟩
  · have hll : ((xs.length : Int) != (ys.length : Int)) = true := by simp; omega
    have hll2 : ((xs.length : Int) == (ys.length : Int)) = false := by simp; omega
    have HD : Hid (decide (xs = ys) = false) := Lib.hid (by rw [decide_eq_false_iff_not]; rintro rfl; exact hl rfl)
    clear hl
    go_enter Tryd.func40, Tryd.ntmps40
    go_wp2_with fail
    go_ret
    exact ⟨ret_bool HD.out.symm, 0, rfl⟩

theorem ret_bool2 {a b c d : Bool} (h1 : a = c) (h2 : b = d) : Ending.returned (.tuple #[.bool a, .bool b]) = .returned (.tuple #[.bool c, .bool d]) := by rw [h1, h2]
def wordsB (xs ys : List Int) : Bool := Plain.wordB xs && Plain.wordB ys
def conjB (xs ys : List Int) : Bool := wordsB xs ys && decide (leastOf xs = leastOf ys)
theorem conj_no {xs ys : List Int} (h : Plain.wordB xs = false ∨ Plain.wordB ys = false) : conjB xs ys = false ∧ wordsB xs ys = false := by
  have hb : wordsB xs ys = false := by rcases h with h | h <;> simp [wordsB, h]
  simp [conjB, hb]
theorem conj_yes {xs ys : List Int} (h1 : Plain.wordB xs = true) (h2 : Plain.wordB ys = true) : conjB xs ys = decide (leastOf xs = leastOf ys) ∧ wordsB xs ys = true := by simp [conjB, wordsB, h1, h2]



end Go.Proofs.YthamckchfhddjaaDoor
