/- Lists of nails and their places. Contracts: impl.isNail, areNails, isList, placeOf; spec.l8List, l8Get. Conditions: numbers of 64 bits, lengths that fit; coefficients that are small. -/
import Derived.Test.YtnmjanhpjnlfcaaBdSetKit
import Derived.Test.YtnmjanhpjnlfcaaBdWindKit
import Derived.StillTailTactics
namespace Go.Proofs.Ytnmjanhpjnlfcaa.Plain
set_option linter.unusedVariables false
def nail8 (n : Int) : Bool := decide (1 ≤ n ∧ n ≤ 6)
def nails8 (l : List Int) : Bool := l.all nail8
def listB (l : List Int) : Bool := decide (l.length ≤ 3) && nails8 l
def placeL (l : List Int) : Nat := l.foldl (fun p n => 6 * p + n.toNat) 0
theorem nails8_iff {l : List Int} : nails8 l = true ↔ ∀ x ∈ l, 1 ≤ x ∧ x ≤ 6 := by simp [nails8, nail8]
theorem listB_iff {l : List Int} : listB l = true ↔ l.length ≤ 3 ∧ ∀ x ∈ l, 1 ≤ x ∧ x ≤ 6 := by simp only [listB, Bool.and_eq_true, decide_eq_true_eq, nails8_iff]
theorem place_snoc (l : List Int) (x : Int) : placeL (l ++ [x]) = 6 * placeL l + x.toNat := by simp [placeL]
theorem place_take {l : List Int} {k : Nat} {x : Int} (h : l[k]? = some x) : placeL (l.take (k + 1)) = 6 * placeL (l.take k) + x.toNat := by rw [take_snoc h, place_snoc]
theorem place_lt {l : List Int} (h : listB l = true) : placeL l < cntL (l.length + 1) := by
  obtain ⟨hl, hn⟩ := listB_iff.1 h
  match l, hl, hn with
  | [], _, _ => decide
  | [a], _, hn => have := hn a (by simp); simp [placeL, cntL]; omega
  | [a, b], _, hn => have := hn a (by simp); have := hn b (by simp); simp [placeL, cntL]; omega
  | [a, b, c], _, hn => have := hn a (by simp); have := hn b (by simp); have := hn c (by simp); simp [placeL, cntL]; omega
theorem place_lt259 {l : List Int} (h : listB l = true) : placeL l < 259 := Nat.lt_of_lt_of_le (place_lt h) (cntL_le (listB_iff.1 h).1)
theorem listB_take {l : List Int} (h : listB l = true) (k : Nat) : listB (l.take k) = true := by
  obtain ⟨hl, hn⟩ := listB_iff.1 h
  exact listB_iff.2 ⟨by simp; omega, fun x hx => hn x (List.mem_of_mem_take hx)⟩
end Go.Proofs.Ytnmjanhpjnlfcaa.Plain
namespace Go.Proofs.Ytnmjanhpjnlfcaa
open Go.ChangeShapes Go.WideShapes Go.ChangeAt Go.RowKit
set_option linter.unusedVariables false

theorem isNail8_any (n : Int) (w : World) (h : -9223372036854775808 ≤ n ∧ n ≤ 9223372036854775807) : Calls Try.prog 66 #[.int .i64 n] w fun e w' => e = .returned (.bool (Plain.nail8 n)) ∧ w' = w := by
  by_cases h0 : 1 ≤ n
  · by_cases h1 : n ≤ 6
    · have HE : Hid (Plain.nail8 n = true) := Lib.hid (by simp [Plain.nail8]; omega)
      go_enter Try.func66, Try.ntmps66
      go_wp2_with fail
      go_ret
      exact ⟨ret_bool HE.out.symm, rfl⟩
    · have HE : Hid (Plain.nail8 n = false) := Lib.hid (by simp [Plain.nail8]; omega)
      go_enter Try.func66, Try.ntmps66
      go_wp2_with fail
      go_ret
      exact ⟨ret_bool HE.out.symm, rfl⟩
  · have HE : Hid (Plain.nail8 n = false) := Lib.hid (by simp [Plain.nail8]; omega)
    go_enter Try.func66, Try.ntmps66
    go_wp2_with fail
    go_ret
    exact ⟨ret_bool HE.out.symm, rfl⟩
set_option maxHeartbeats 400000 in
theorem areNails_any (a : Option Addr) (cap : Nat) (xs : List Int) (w : World) (h : Hid (Ints w a xs)) (h64 : Hid (In64 xs)) (hn : xs.length ≤ 9223372036854775807) :
    Calls Try.prog 60 #[.slice a xs.length cap] w fun e w' => e = .returned (.bool (Plain.nails8 xs)) ∧ w' = w := by
  go_enter Try.func60, Try.ntmps60
  go_wp2_with fail
  go_loop [7] (fun i => ∃ k : Nat, k ≤ xs.length ∧ i = .int .i64 (k : Int) ∧ Plain.nails8 (xs.take k) = true) (fun i => xs.length - (intOf i).toNat)
  case atStart => exact ⟨0, Nat.zero_le _, rfl, by simp [Plain.nails8]⟩
  case round =>
    obtain ⟨k, hk, rfl, hrel⟩ := hrel
    have HR := Lib.hid hrel
    clear hrel
    by_cases hlt : k < xs.length
    · obtain ⟨x, hx⟩ := at_some xs k hlt
      obtain ⟨b, o, rfl, hc⟩ := h.out k x hx
      have hx64 := h64.out k x hx
      have hi : (k : Int) < (xs.length : Int) := by omega
      have hi0 : (0 : Int) ≤ (k : Int) := by omega
      cases hx1 : Plain.nail8 x with
      | true =>
        have HT : Hid (Plain.nails8 (xs.take (k + 1)) = true) := Lib.hid (by rw [Plain.take_snoc hx]; simp only [Plain.nails8, List.all_append, List.all_cons, List.all_nil, hx1, Bool.and_true]; exact HR.out)
        have H1 := Lib.hid hx1
        clear hx hx1
        go_wp2_with fail
        refine (isNail8_any x _ hx64).mono ?_
        rw [H1.out]
        rintro e w' ⟨rfl, rfl⟩
        go_wp2_with fail
        go_round
        case rel => exact ⟨k + 1, by omega, by go_num, HT.out⟩
        case measure => simp [intOf]; omega
      | false =>
        have HF : Hid (Plain.nails8 xs = false) := Lib.hid (by
          rw [Bool.eq_false_iff]
          intro hall
          have := List.all_eq_true.1 hall x (List.mem_of_getElem? hx)
          rw [hx1] at this; cases this)
        have H1 := Lib.hid hx1
        clear hx hx1
        go_wp2_with fail
        refine (isNail8_any x _ hx64).mono ?_
        rw [H1.out]
        rintro e w' ⟨rfl, rfl⟩
        go_wp2_with fail
        go_ret
        exact ⟨ret_bool HF.out.symm, rfl⟩
    · obtain rfl : k = xs.length := by omega
      have HF : Hid (Plain.nails8 xs = true) := Lib.hid (by have := HR.out; rwa [List.take_length] at this)
      clear HR
      go_wp2_with fail
      go_ret
      exact ⟨ret_bool HF.out.symm, rfl⟩
theorem isList_any (a : Option Addr) (cap : Nat) (xs : List Int) (w : World) (h : Hid (Ints w a xs)) (h64 : Hid (In64 xs)) (hn : xs.length ≤ 9223372036854775807) :
    Calls Try.prog 44 #[.slice a xs.length cap] w fun e w' => e = .returned (.bool (Plain.listB xs)) ∧ w' = w := by
  by_cases hl : xs.length ≤ 3
  · have HE : Hid (Plain.listB xs = Plain.nails8 xs) := Lib.hid (by simp [Plain.listB, hl])
    go_enter Try.func44, Try.ntmps44
    go_wp2_with fail
    refine (areNails_any _ _ xs _ h h64 hn).mono ?_
    rintro e w' ⟨rfl, rfl⟩
    go_wp2_with fail
    go_ret
    exact ⟨ret_bool HE.out.symm, rfl⟩
  · have HE : Hid (Plain.listB xs = false) := Lib.hid (by simp [Plain.listB, hl])
    go_enter Try.func44, Try.ntmps44
    go_wp2_with fail
    go_ret
    exact ⟨ret_bool HE.out.symm, rfl⟩
set_option maxHeartbeats 400000 in
theorem placeOf_any (a : Option Addr) (cap : Nat) (xs : List Int) (w : World) (h : Hid (Ints w a xs)) (hL : Hid (Plain.listB xs = true)) (hn : xs.length ≤ 3) :
    Calls Try.prog 45 #[.slice a xs.length cap] w fun e w' => e = .returned (.int .i64 (Plain.placeL xs : Nat)) ∧ w' = w := by
  go_enter Try.func45, Try.ntmps45
  go_wp2_with fail
  go_loop [3, 8] (fun p i => ∃ k : Nat, k ≤ xs.length ∧ i = .int .i64 (k : Int) ∧ p = .int .i64 (Plain.placeL (xs.take k) : Nat)) (fun _ i => xs.length - (intOf i).toNat)
  case atStart => exact ⟨0, Nat.zero_le _, rfl, rfl⟩
  case round =>
    obtain ⟨k, hk, rfl, rfl⟩ := hrel
    by_cases hlt : k < xs.length
    · obtain ⟨x, hx⟩ := at_some xs k hlt
      obtain ⟨b, o, rfl, hc⟩ := h.out k x hx
      have hx1 := (Plain.listB_iff.1 hL.out).2 x (List.mem_of_getElem? hx)
      obtain ⟨N, rfl⟩ : ∃ N : Nat, x = (N : Int) := ⟨x.toNat, by omega⟩
      have hp := Plain.place_lt259 (Plain.listB_take hL.out k)
      have hi : (k : Int) < (xs.length : Int) := by omega
      have hi0 : (0 : Int) ≤ (k : Int) := by omega
      have HT : Hid (Plain.placeL (xs.take (k + 1)) = 6 * Plain.placeL (xs.take k) + N) := Lib.hid (Plain.place_take hx)
      clear hx
      generalize Plain.placeL (xs.take k) = p at hp HT ⊢
      go_wp2_with fail
      refine (placeBehind_is p N _ _ (by omega) (by omega) HT).mono ?_
      rintro e w' ⟨rfl, rfl⟩
      go_wp2_with fail
      go_round
      case rel => exact ⟨k + 1, by omega, by go_num, rfl⟩
      case measure => simp [intOf]; omega
    · obtain rfl : k = xs.length := by omega
      rw [List.take_length]
      go_wp2_with fail
      go_ret
      exact ⟨rfl, rfl⟩

end Go.Proofs.Ytnmjanhpjnlfcaa
