/- Contracts: slices.Index and Contains at lists of ints. Condition: a length that fits. -/
import Derived.Test.YtecbfndgdmpacaaLawKit
namespace Go.Proofs.Ytecbfndgdmpacaa
open Go.ChangeShapes Go.WideShapes Go.ChangeAt Go.RowKit
set_option linter.unusedVariables false

theorem take_snoc9 {xs : List Int} {k : Nat} {x : Int} (h : xs[k]? = some x) : xs.take (k + 1) = xs.take k ++ [x] := by
  rw [List.take_add_one, h]; rfl
set_option maxHeartbeats 400000 in
theorem index9_any (a : Option Addr) (cap : Nat) (xs : List Int) (x : Int) (w : World) (h : Hid (Ints w a xs)) (hn : xs.length ≤ 1048576) :
    Calls Try.prog 93 #[.slice a xs.length cap, .int .i64 x] w fun e w' => (∃ i : Int, e = .returned (.int .i64 i) ∧ -1 ≤ i ∧ i ≤ 1048576 ∧ (x ∈ xs ↔ 0 ≤ i)) ∧ w' = w := by
  go_enter Try.func93, Try.ntmps93
  go_wp2_with fail
  go_loop [8] (fun i => ∃ k : Nat, k ≤ xs.length ∧ i = .int .i64 k ∧ ∀ y ∈ xs.take k, y ≠ x) (fun i => xs.length - (intOf i).toNat)
  case atStart => exact ⟨0, Nat.zero_le _, rfl, by simp⟩
  case round =>
    obtain ⟨k, hk, rfl, hno⟩ := hrel
    by_cases hlt : k < xs.length
    · obtain ⟨y, hy⟩ := at_some xs k hlt
      obtain ⟨b, o, rfl, hc⟩ := h.out k y hy
      have HY := Lib.hid hy
      have HN := Lib.hid hno
      have hi : (k : Int) < (xs.length : Int) := by omega
      have hi0 : (0 : Int) ≤ (k : Int) := by omega
      clear hy hno
      by_cases he : x = y
      · have hq : (x == y) = true := by simpa using he
        have HM : Hid (x ∈ xs) := Lib.hid (by rw [he]; exact List.mem_of_getElem? HY.out)
        clear he
        go_wp2_with fail
        go_ret
        exact ⟨⟨_, rfl, by omega, by omega, ⟨fun _ => hi0, fun _ => HM.out⟩⟩, rfl⟩
      · have hq : (x == y) = false := by simpa using he
        have HE := Lib.hid he
        clear he
        go_wp2_with fail
        go_round
        case rel =>
          refine ⟨k + 1, by omega, by go_num, ?_⟩
          rw [take_snoc9 HY.out]
          intro z hz
          rcases List.mem_append.1 hz with hz | hz
          · exact HN.out z hz
          · simp only [List.mem_singleton] at hz
            rw [hz]; exact fun e => HE.out e.symm
        case measure => simp [intOf]; omega
    · obtain rfl : k = xs.length := by omega
      have HN := Lib.hid hno
      clear hno
      go_wp2_with fail
      go_ret
      refine ⟨⟨_, rfl, by omega, by omega, ⟨fun hm => absurd rfl (HN.out x (by rw [List.take_length]; exact hm)), fun h => by omega⟩⟩, rfl⟩
set_option maxHeartbeats 400000 in
theorem contains9_any (a : Option Addr) (cap : Nat) (xs : List Int) (x : Int) (w : World) (h : Hid (Ints w a xs)) (hn : xs.length ≤ 1048576) :
    Calls Try.prog 69 #[.slice a xs.length cap, .int .i64 x] w fun e w' => e = .returned (.bool (decide (x ∈ xs))) ∧ w' = w := by
  go_enter Try.func69, Try.ntmps69
  go_wp2_with fail
  refine (index9_any a cap xs x _ h hn).mono ?_
  rintro e w' ⟨⟨i, rfl, h1, h2, h3⟩, rfl⟩
  have H3 := Lib.hid h3
  clear h3
  go_wp2_with fail
  go_ret
  exact ⟨ret_bool (by rw [Bool.eq_iff_iff, decide_eq_true_eq, decide_eq_true_eq]; exact H3.out.symm), rfl⟩

end Go.Proofs.Ytecbfndgdmpacaa
