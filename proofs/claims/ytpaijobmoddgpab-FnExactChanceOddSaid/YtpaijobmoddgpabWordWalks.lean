/- Contracts: spec.l2Word, impl.IsWord and what they call tell whether a list is a word. Condition: numbers of 64 bits, a length that fits. -/
import Derived.Test.YtpaijobmoddgpabInts
import Derived.Test.YtpaijobmoddgpabWord
import Derived.Test.YtpaijobmoddgpabRange
namespace Go.Proofs.Ytpaijobmoddgpab
open Go.ChangeShapes Go.WideShapes Go.ChangeAt Go.RowKit

theorem letter_zero {x : Int} (h : x = 0) : Plain.letterB x = false := by simp [Plain.letterB, h]
theorem letter_low {x : Int} (h : x < -6) : Plain.letterB x = false := by simp [Plain.letterB]; omega
theorem letter_high {x : Int} (h : 6 < x) : Plain.letterB x = false := by simp [Plain.letterB]; omega
theorem letter_yes {x : Int} (h0 : x ≠ 0) (h1 : -6 ≤ x) (h2 : x ≤ 6) : Plain.letterB x = true := by simp [Plain.letterB]; omega

theorem isLetter_any (x : Int) (w : World) (h : -9223372036854775808 ≤ x ∧ x ≤ 9223372036854775807) :
    Calls Try.prog 65 #[.int .i64 x] w fun e w' => e = .returned (.bool (Plain.letterB x)) ∧ w = w' := by
  obtain ⟨hl, hh⟩ := h
  by_cases h0 : x = 0
  · subst h0
    go_enter Try.func65, Try.ntmps65
    go_wp2
    go_ret
    exact ⟨ret_bool (letter_zero rfl).symm, rfl⟩
  · have hb : (x != 0) = true := by simpa using h0
    by_cases h1 : -6 ≤ x
    · have hd1 : decide (-6 ≤ x) = true := by simpa using h1
      by_cases h2 : x ≤ 6
      · have HL := Lib.hid (letter_yes h0 h1 h2)
        have hd2 : decide (x ≤ 6) = true := by simpa using h2
        go_enter Try.func65, Try.ntmps65
        go_wp2
        go_ret
        exact ⟨ret_bool HL.out.symm, rfl⟩
      · have HL := Lib.hid (letter_high (x := x) (by omega))
        have hd2 : decide (x ≤ 6) = false := by simpa using h2
        go_enter Try.func65, Try.ntmps65
        go_wp2
        go_ret
        exact ⟨ret_bool HL.out.symm, rfl⟩
    · have HL := Lib.hid (letter_low (x := x) (by omega))
      have hd1 : decide (-6 ≤ x) = false := by simpa using h1
      go_enter Try.func65, Try.ntmps65
      go_wp2
      go_ret
      exact ⟨ret_bool HL.out.symm, rfl⟩


theorem l2Letter_any (x : Int) (w : World) (h : -9223372036854775808 ≤ x ∧ x ≤ 9223372036854775807) :
    Calls Try.prog 61 #[.int .i64 x] w fun e w' => e = .returned (.bool (Plain.letterB x)) ∧ w = w' := by
  by_cases h0 : x = 0
  · subst h0
    go_enter Try.func61, Try.ntmps61
    go_wp2_with (go_at_call 36; refine (l1In_any _ _ _ _ (by omega)).mono ?_; rintro e w' ⟨rfl, rfl⟩)
    go_ret
    exact ⟨ret_bool (letter_zero rfl).symm, rfl⟩
  · have hb : (x != 0) = true := by simpa using h0
    have HL : Hid (decide (-6 ≤ x ∧ x ≤ 6) = Plain.letterB x) := Lib.hid (by simp [Plain.letterB, h0])
    have HX := Lib.hid h
    clear h h0
    go_enter Try.func61, Try.ntmps61
    go_wp2_with (go_at_call 36; refine (l1In_any _ _ _ _ HX.out).mono ?_; rw [HL.out]; rintro e w' ⟨rfl, rfl⟩)
    go_ret
    exact ⟨rfl, rfl⟩

/-- The first k numbers are letters. -/
def Good (xs : List Int) (k : Nat) : Prop := ∀ (j : Nat) (x : Int), j < k → xs[j]? = some x → Plain.letterB x = true
theorem good_zero (xs : List Int) : Good xs 0 := fun j x h => by omega
theorem good_succ {xs : List Int} {k : Nat} {x : Int} (h : Good xs k) (hx : xs[k]? = some x) (hl : Plain.letterB x = true) : Good xs (k + 1) := fun j y hj hy => by
  by_cases e : j = k
  · subst e
    rw [hx] at hy
    simp at hy
    subst hy
    exact hl
  · exact h j y (by omega) hy
theorem word_bad {xs : List Int} {k : Nat} {x : Int} (hx : xs[k]? = some x) (hl : Plain.letterB x = false) : Plain.wordB xs = false := by
  rw [Bool.eq_false_iff]
  intro h
  have := (Plain.wordB_iff.1 h).2 x (List.mem_of_getElem? hx)
  rw [← Plain.letterB_iff, hl] at this
  cases this
theorem word_long {xs : List Int} (h : 64 < xs.length) : Plain.wordB xs = false := by simp [Plain.wordB]; omega
theorem word_good {xs : List Int} (h : xs.length ≤ 64) (hg : Good xs xs.length) : Plain.wordB xs = true := by
  rw [Plain.wordB_iff]
  refine ⟨h, fun x hx => ?_⟩
  obtain ⟨j, hj⟩ := List.getElem?_of_mem hx
  exact Plain.letterB_iff.1 (hg j x (at_lt hj) hj)

set_option maxHeartbeats 400000 in
theorem l2Word_any (a : Option Addr) (cap : Nat) (xs : List Int) (w : World) (h : Hid (Ints w a xs)) (h64 : Hid (In64 xs)) (hn : xs.length ≤ 9223372036854775807) :
    Calls Try.prog 45 #[.slice a xs.length cap] w fun e w' => e = .returned (.bool (Plain.wordB xs)) ∧ w = w' := by
  go_enter Try.func45, Try.ntmps45
  go_wp2
  go_loop [3] (fun i => ∃ k : Nat, k ≤ xs.length ∧ k ≤ 65 ∧ i = .int .i64 k ∧ Good xs k) (fun i => 65 - (intOf i).toNat)
  case atStart => exact ⟨0, Nat.zero_le _, by omega, rfl, good_zero _⟩
  case round =>
    obtain ⟨k, hk, hk2, rfl, hg⟩ := hrel
    have HG := Lib.hid hg
    clear hg
    by_cases hlt : k < xs.length
    · have hi : (k : Int) < (xs.length : Int) := by omega
      have hid1 : decide ((k : Int) < (xs.length : Int)) = true := by simpa using hi
      by_cases hle : k ≤ 64
      · have hi2 : (k : Int) ≤ 64 := by omega
        have hid2 : decide ((k : Int) ≤ 64) = true := by simpa using hi2
        obtain ⟨x, hx⟩ := at_some xs k hlt
        obtain ⟨b, o, rfl, hc⟩ := h.out k x hx
        have HX := Lib.hid (h64.out k x hx)
        have HY := Lib.hid hx
        clear hx
        cases hb : Plain.letterB x with
        | true =>
          have HB := Lib.hid hb
          clear hb
          go_wp2_with (go_at_call 61; refine (l2Letter_any _ _ HX.out).mono ?_; rw [HB.out]; rintro e w' ⟨rfl, rfl⟩)
          go_round
          case rel => exact ⟨k + 1, by omega, by omega, by go_num, good_succ HG.out HY.out HB.out⟩
          case measure => simp [intOf]; omega
        | false =>
          have HB := Lib.hid hb
          clear hb
          go_wp2_with (go_at_call 61; refine (l2Letter_any _ _ HX.out).mono ?_; rw [HB.out]; rintro e w' ⟨rfl, rfl⟩)
          go_ret
          exact ⟨ret_bool (word_bad HY.out HB.out).symm, rfl⟩
      · have hi2 : ¬ (k : Int) ≤ 64 := by omega
        have hid2 : decide ((k : Int) ≤ 64) = false := by simpa using hi2
        have hi3 : ¬ (xs.length : Int) ≤ 64 := by omega
        go_wp2
        go_ret
        exact ⟨ret_bool (by rw [word_long (by omega)]), rfl⟩
    · obtain rfl : k = xs.length := by omega
      have hi : ¬ ((xs.length : Int) < (xs.length : Int)) := by omega
      by_cases hle : xs.length ≤ 64
      · have HW := Lib.hid (word_good hle HG.out)
        go_wp2
        go_ret
        exact ⟨ret_bool (by rw [HW.out]; simp; omega), rfl⟩
      · have HW := Lib.hid (word_long (xs := xs) (by omega))
        go_wp2
        go_ret
        exact ⟨ret_bool (by rw [HW.out]; simp; omega), rfl⟩

set_option maxHeartbeats 400000 in
theorem isWord_any (a : Option Addr) (cap : Nat) (xs : List Int) (w : World) (h : Hid (Ints w a xs)) (h64 : Hid (In64 xs)) (hn : xs.length ≤ 9223372036854775807) :
    Calls Try.prog 51 #[.slice a xs.length cap] w fun e w' => e = .returned (.bool (Plain.wordB xs)) ∧ w = w' := by
  by_cases hle : 64 < xs.length
  · have HW := Lib.hid (word_long hle)
    go_enter Try.func51, Try.ntmps51
    go_wp2
    go_ret
    exact ⟨ret_bool (by rw [HW.out]), rfl⟩
  · go_enter Try.func51, Try.ntmps51
    go_wp2
    go_loop [10] (fun i => ∃ k : Nat, k ≤ xs.length ∧ i = .int .i64 k ∧ Good xs k) (fun i => xs.length - (intOf i).toNat)
    case atStart => exact ⟨0, Nat.zero_le _, rfl, good_zero _⟩
    case round =>
      obtain ⟨k, hk, rfl, hg⟩ := hrel
      have HG := Lib.hid hg
      clear hg
      by_cases hlt : k < xs.length
      · obtain ⟨x, hx⟩ := at_some xs k hlt
        obtain ⟨b, o, rfl, hc⟩ := h.out k x hx
        have HX := Lib.hid (h64.out k x hx)
        have HY := Lib.hid hx
        clear hx
        cases hb : Plain.letterB x with
        | true =>
          have HB := Lib.hid hb
          clear hb
          go_wp2_with (go_at_call 65; refine (isLetter_any _ _ HX.out).mono ?_; rw [HB.out]; rintro e w' ⟨rfl, rfl⟩)
          go_round
          case rel => exact ⟨k + 1, by omega, by go_num, good_succ HG.out HY.out HB.out⟩
          case measure => simp [intOf]; omega
        | false =>
          have HB := Lib.hid hb
          clear hb
          go_wp2_with (go_at_call 65; refine (isLetter_any _ _ HX.out).mono ?_; rw [HB.out]; rintro e w' ⟨rfl, rfl⟩)
          go_ret
          exact ⟨ret_bool (word_bad HY.out HB.out).symm, rfl⟩
      · obtain rfl : k = xs.length := by omega
        have HW := Lib.hid (word_good (by omega) HG.out)
        go_wp2
        go_ret
        exact ⟨ret_bool (by rw [HW.out]), rfl⟩

end Go.Proofs.Ytpaijobmoddgpab
