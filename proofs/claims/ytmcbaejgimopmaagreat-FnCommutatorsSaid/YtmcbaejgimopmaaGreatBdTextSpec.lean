/- Contracts: spec.l2Less, (impl.word).isBefore and what they call tell whether a list of letters comes before another one. Conditions: letters, lengths that fit. -/
import Derived.Test.YtmcbaejgimopmaaGreatBdNailsWalks
import Derived.Test.YtmcbaejgimopmaaGreatIntsWalks
import Derived.Test.YtmcbaejgimopmaaGreatLawKit
import Derived.Test.YtmcbaejgimopmaaGreatWord
import Derived.Deep.RegionWith
namespace Go.Proofs.YtmcbaejgimopmaaGreat
open Go.ChangeShapes Go.WideShapes Go.ChangeAt Go.RowKit
set_option linter.unusedVariables false

/-- A call that leaves the world alone, behind draws that have been joined. -/
theorem still_drawn {f : FuncId} {args : Array Value} {v : Value} (hc : ∀ W, Calls Tryz.prog f args W fun e w' => e = .returned v ∧ w' = W) (w : World) (a n : Nat) :
    Calls Tryz.prog f args (w.drewN (a + n)) fun e w' => e = .returned v ∧ ∃ m, w' = w.drewN (a + m) := by
  refine (hc (w.drewN (a + n))).mono ?_
  rintro e w' ⟨rfl, rfl⟩
  exact ⟨rfl, n, rfl⟩
theorem l2Code_any (x : Int) (w : World) (h : -6 ≤ x ∧ x ≤ 6) : Calls Tryz.prog 100 #[.int .i64 x] w fun e w' => e = .returned (.int .i64 (Plain.codeOf x)) ∧ w' = w := by
  obtain ⟨h1, h2⟩ := h
  by_cases hp : 0 < x
  · have HC : Hid (Plain.codeOf x = 2 * x - 2) := Lib.hid (if_pos hp)
    go_enter Tryz.func100, Tryz.ntmps100
    go_wp2
    go_ret
    exact ⟨ret_int HC.out.symm, rfl⟩
  · have HC : Hid (Plain.codeOf x = -2 * x - 1) := Lib.hid (if_neg hp)
    go_enter Tryz.func100, Tryz.ntmps100
    go_wp2
    go_ret
    exact ⟨ret_int HC.out.symm, rfl⟩


set_option maxRecDepth 100000 in
theorem compareLetters_any (x y : Int) (w : World) (hx : -6 ≤ x ∧ x ≤ 6) (hy : -6 ≤ y ∧ y ≤ 6) : Calls Tryz.prog 122 #[.int .i64 x, .int .i64 y] w fun e w' => e = .returned (.int .i64 (Plain.cmpL x y)) ∧ w = w' := by
  have HX := Lib.hid hx
  have HY := Lib.hid hy
  obtain ⟨x1, x2⟩ := hx
  obtain ⟨y1, y2⟩ := hy
  have nx : 0 ≤ Plain.nail x ∧ Plain.nail x ≤ 6 := by unfold Plain.nail; split <;> omega
  have ny : 0 ≤ Plain.nail y ∧ Plain.nail y ≤ 6 := by unfold Plain.nail; split <;> omega
  obtain ⟨nx1, nx2⟩ := nx
  obtain ⟨ny1, ny2⟩ := ny
  by_cases he : Plain.nail x = Plain.nail y
  · have HC : Hid (Plain.cmpL x y = y - x) := Lib.hid (if_pos he)
    have hq : (Plain.nail x != Plain.nail y) = false := by simpa using he
    have hq2 : (Plain.nail x == Plain.nail y) = true := by simpa using he
    clear he
    go_enter Tryz.func122, Tryz.ntmps122
    go_wp2_with (first | (go_at_call_of 96 x; refine (nailOf_any x _ HX.out).mono ?_; rintro e w' ⟨rfl, rfl⟩) | (go_at_call_of 96 y; refine (nailOf_any y _ HY.out).mono ?_; rintro e w' ⟨rfl, rfl⟩))
    go_ret
    exact ⟨ret_int HC.out.symm, rfl⟩
  · have HC : Hid (Plain.cmpL x y = Plain.nail x - Plain.nail y) := Lib.hid (if_neg he)
    have hq : (Plain.nail x != Plain.nail y) = true := by simpa using he
    have hq2 : (Plain.nail x == Plain.nail y) = false := by simpa using he
    clear he
    go_enter Tryz.func122, Tryz.ntmps122
    go_wp2_with (first | (go_at_call_of 96 x; refine (nailOf_any x _ HX.out).mono ?_; rintro e w' ⟨rfl, rfl⟩) | (go_at_call_of 96 y; refine (nailOf_any y _ HY.out).mono ?_; rintro e w' ⟨rfl, rfl⟩))
    go_ret
    exact ⟨ret_int HC.out.symm, rfl⟩

/-- What a comparison comes to. -/
def CmpPost (b : Bool) (w : World) (e : Ending) (w' : World) : Prop := ∃ c : Int, e = .returned (.int .i64 c) ∧ decide (c < 0) = b ∧ w = w'
set_option maxHeartbeats 400000 in
theorem compare_any (a b : Option Addr) (ca cb : Nat) (xs ys : List Int) (w : World) (ha : Hid (Ints w a xs)) (hb : Hid (Ints w b ys)) (la : Hid (Plain.Letters xs)) (lb : Hid (Plain.Letters ys)) (hn : xs.length ≤ 9223372036854775807) (hl : Hid (xs.length = ys.length)) :
    Calls Tryz.prog 121 #[.slice a xs.length ca, .slice b ys.length cb, .func (.func 122) #[] #[]] w (CmpPost (Plain.lexB xs ys) w) := by
  have hm : ys.length ≤ 9223372036854775807 := by have := hl.out; omega
  go_enter Tryz.func121, Tryz.ntmps121
  go_wp2_with fail
  go_loop [13] (fun i => ∃ k : Nat, k ≤ xs.length ∧ i = .int .i64 k ∧ Agree xs ys k) (fun i => xs.length - (intOf i).toNat)
  case atStart => exact ⟨0, Nat.zero_le _, rfl, agree_zero _ _⟩
  case round =>
    obtain ⟨k, hk, rfl, hag⟩ := hrel
    have HA := Lib.hid hag
    clear hag
    by_cases hlt : k < xs.length
    · obtain ⟨x, hx⟩ := at_some xs k hlt
      obtain ⟨y, hy⟩ := at_some ys k (by have := hl.out; omega)
      obtain ⟨b1, o1, rfl, hc⟩ := ha.out k x hx
      obtain ⟨b2, o2, rfl, hd⟩ := hb.out k y hy
      have hx0 := (la.out.at hx).1
      have hy0 := (lb.out.at hy).1
      have HXR := Lib.hid (la.out.at hx).2
      have HYR := Lib.hid (lb.out.at hy).2
      have HX := Lib.hid hx
      have HY := Lib.hid hy
      have hlt2 : k < ys.length := at_lt hy
      have hi2 : ¬ (ys.length : Int) ≤ (k : Int) := by omega
      have hci := Plain.cmp_in HXR.out HYR.out
      have HZ := Lib.hid (Plain.cmp_zero hx0 hy0)
      have HN := Lib.hid (Plain.cmp_neg hx0 hy0)
      obtain ⟨hc1, hc2⟩ := hci
      clear hx hy hx0 hy0
      by_cases he : x = y
      · subst he
        have hcz : (Plain.cmpL x x != 0) = false := by simpa using HZ.out.2 rfl
        have hcz2 : (Plain.cmpL x x == 0) = true := by simpa using HZ.out.2 rfl
        go_wp2_with fail
        refine (compareLetters_any x x _ HXR.out HYR.out).mono ?_
        rintro e w' ⟨rfl, rfl⟩
        go_wp2
        go_round
        case rel => exact ⟨k + 1, by omega, by go_num, agree_succ HA.out HX.out HY.out⟩
        case measure => simp [intOf]; omega
      · have hcz : (Plain.cmpL x y != 0) = true := by simpa using fun h => he (HZ.out.1 h)
        have hcz2 : (Plain.cmpL x y == 0) = false := by simpa using fun h => he (HZ.out.1 h)
        have HD := Lib.hid (Plain.lex_at (fun j c d hj => HA.out j c d hj) HX.out HY.out he)
        have HE : Hid (decide (Plain.cmpL x y < 0) = Plain.lexB xs ys) := Lib.hid (by rw [HD.out]; exact decide_eq_decide.2 HN.out)
        clear he
        go_wp2_with fail
        refine (compareLetters_any x y _ HXR.out HYR.out).mono ?_
        rintro e w' ⟨rfl, rfl⟩
        go_wp2
        go_ret
        exact ⟨_, rfl, HE.out, rfl⟩
    · have hxy := of_decide_eq_true (eq_agree hl.out (fun j x y hj => HA.out j x y (by omega)))
      have HD : Hid (Plain.lexB xs ys = false) := Lib.hid (by rw [hxy]; exact Plain.lex_same ys)
      have hi : ¬ (k : Int) < (xs.length : Int) := by omega
      have hi3 : ¬ (xs.length : Int) < (ys.length : Int) := by have := hl.out; omega
      have hi4 : ¬ xs.length < ys.length := by have := hl.out; omega
      clear hxy
      go_wp2
      go_ret
      exact ⟨0, rfl, HD.out.symm, rfl⟩

set_option maxHeartbeats 400000 in
theorem isBefore_any (a b : Option Addr) (ca cb : Nat) (xs ys : List Int) (w : World) (ha : Hid (Ints w a xs)) (hb : Hid (Ints w b ys)) (la : Hid (Plain.Letters xs)) (lb : Hid (Plain.Letters ys)) (hn : xs.length ≤ 9223372036854775807) (hm : ys.length ≤ 9223372036854775807) :
    Calls Tryz.prog 113 #[.slice a xs.length ca, .slice b ys.length cb] w fun e w' => e = .returned (.bool (Plain.lessB xs ys)) ∧ w = w' := by
  by_cases hl : xs.length = ys.length
  · have HL := Lib.hid hl
    have HE := Lib.hid (Plain.less_lex hl)
    have hll : ((xs.length : Int) != (ys.length : Int)) = false := by rw [hl]; simp
    have hll2 : ((xs.length : Int) == (ys.length : Int)) = true := by rw [hl]; simp
    clear hl
    go_enter Tryz.func113, Tryz.ntmps113
    go_wp2_with fail
    refine (compare_any _ _ _ _ xs ys _ ha hb la lb hn HL).mono ?_
    rintro e w' ⟨c, rfl, hc, rfl⟩
    have HC := Lib.hid hc
    clear hc
    go_wp2
    go_ret
    exact ⟨ret_bool (HC.out.trans HE.out.symm), rfl⟩
  · have hll : ((xs.length : Int) != (ys.length : Int)) = true := by simp; omega
    have hll2 : ((xs.length : Int) == (ys.length : Int)) = false := by simp; omega
    have HD := Lib.hid (Plain.less_len hl)
    clear hl
    go_enter Tryz.func113, Tryz.ntmps113
    go_wp2_with fail
    go_ret
    exact ⟨ret_bool (by rw [HD.out]), rfl⟩

end Go.Proofs.YtmcbaejgimopmaaGreat

/- Contract: spec.l2Text returns the text of a list of letters. Conditions: letters, a length that fits. -/
namespace Go.Proofs.YtmcbaejgimopmaaGreat
open Go.ChangeShapes Go.WideShapes Go.ChangeAt Go.RowKit
set_option linter.unusedVariables false

/-- The byte of a letter. -/
def signNat (x : Int) : Nat := if x < 0 then (65 - x - 1).toNat else (97 + x - 1).toNat
def signB (x : Int) : UInt8 := UInt8.ofNat (signNat x)
theorem sign_six {x : Int} (hx : x ≠ 0 ∧ -6 ≤ x ∧ x ≤ 6) : x = 1 ∨ x = -1 ∨ x = 2 ∨ x = -2 ∨ x = 3 ∨ x = -3 ∨ x = 4 ∨ x = -4 ∨ x = 5 ∨ x = -5 ∨ x = 6 ∨ x = -6 := by omega
def textB (l : List Int) : List UInt8 := l.map signB
def textOf (l : List Int) : ByteArray := ⟨(textB l).toArray⟩
theorem textOf_nil : textOf [] = ⟨#[]⟩ := rfl
theorem textOf_snoc (l : List Int) (x : Int) : textOf (l ++ [x]) = textOf l ++ ⟨#[signB x]⟩ := by
  apply ByteArray.ext
  simp [textOf, textB]
theorem textOf_size (l : List Int) : (textOf l).size = l.length := by simp [textOf, textB, ByteArray.size]

theorem cp1 : Plain.codeOf (1) = 0 := by decide
theorem cm1 : Plain.codeOf (-1) = 1 := by decide
theorem cp2 : Plain.codeOf (2) = 2 := by decide
theorem cm2 : Plain.codeOf (-2) = 3 := by decide
theorem cp3 : Plain.codeOf (3) = 4 := by decide
theorem cm3 : Plain.codeOf (-3) = 5 := by decide
theorem cp4 : Plain.codeOf (4) = 6 := by decide
theorem cm4 : Plain.codeOf (-4) = 7 := by decide
theorem cp5 : Plain.codeOf (5) = 8 := by decide
theorem cm5 : Plain.codeOf (-5) = 9 := by decide
theorem cp6 : Plain.codeOf (6) = 10 := by decide
theorem cm6 : Plain.codeOf (-6) = 11 := by decide
theorem l2Code_left (x : Int) (w : World) (h : -6 ≤ x ∧ x ≤ 6) : Calls Tryz.prog 100 #[.int .i64 x] w fun e w' => e = .returned (.int .i64 (Plain.codeOf x)) ∧ w = w' := (l2Code_any x w h).mono fun _ _ h => ⟨h.1, h.2.symm⟩
set_option maxRecDepth 100000 in
set_option maxHeartbeats 1000000 in
theorem l2Text_any (a : Option Addr) (cap : Nat) (xs : List Int) (w : World) (h : Hid (Ints w a xs)) (hl : Hid (Plain.Letters xs)) (hn : xs.length ≤ 1048576) :
    Calls Tryz.prog 85 #[.slice a xs.length cap] w fun e w' => e = .returned (.string (textOf xs)) ∧ w = w' := by
  go_enter Tryz.func85, Tryz.ntmps85
  go_wp2
  go_loop [3, 4] (fun s i => ∃ k : Nat, k ≤ xs.length ∧ i = .int .i64 k ∧ s = .string (textOf (xs.take k))) (fun _ i => xs.length - (intOf i).toNat)
  case atStart => exact ⟨0, Nat.zero_le _, rfl, rfl⟩
  case round =>
    obtain ⟨k, hk, rfl, rfl⟩ := hrel
    by_cases hlt : k < xs.length
    · obtain ⟨x, hx⟩ := at_some xs k hlt
      obtain ⟨b, o, rfl, hc⟩ := h.out k x hx
      have hx6 := hl.out.at hx
      have HT : Hid (textOf (xs.take (k + 1)) = textOf (xs.take k) ++ ⟨#[signB x]⟩) := Lib.hid (by rw [Plain.take_snoc hx, textOf_snoc])
      have hsz : ((textOf (xs.take k)).size : Int) ≤ 1048576 := by rw [textOf_size]; simp; omega
      generalize textOf (xs.take k) = t at HT hsz ⊢
      clear hx
      rcases sign_six hx6 with rfl | rfl | rfl | rfl | rfl | rfl | rfl | rfl | rfl | rfl | rfl | rfl
      all_goals clear hx6
      all_goals
        go_wp2_with fail
        refine (l2Code_left _ _ (by omega)).mono ?_
        simp only [cp1, cm1, cp2, cm2, cp3, cm3, cp4, cm4, cp5, cm5, cp6, cm6]
        rintro e w' ⟨rfl, rfl⟩
        go_wp2
        go_round
        case rel => exact ⟨k + 1, by omega, by go_num, by rw [HT.out]; rfl⟩
        case measure => simp [intOf]; omega
    · obtain rfl : k = xs.length := by omega
      rw [List.take_length]
      go_wp2
      go_ret
      exact ⟨rfl, rfl⟩

end Go.Proofs.YtmcbaejgimopmaaGreat
